/- A shelf: write, where room is left. -/
import Derived.Test.YtippipeebkkghaaGreatDoorIh
import Derived.Test.YtippipeebkkghaaGreatDoorBm
namespace Go.Proofs.YtippipeebkkghaaGreatDoor
set_option linter.unusedVariables false
set_option linter.unusedSimpArgs false
open Go.RowKit Go.Deep Go.Maps

set_option maxRecDepth 100000 in
set_option maxHeartbeats 3200000 in
theorem swrite_ok {w : World} {Z : Nat → Prop} {sh mp g bp d m gf s q a b c e lt y : Nat} {h : List Rc} {dur : List Nat} {T : Nat → Option (List Nat)} (hl : Lg w g bp d m gf s q a b c e lt y (h.map wrS) dur T) (x : Sk w Z sh mp g h) (r : Rc) (p : Option Addr) (cp : Nat)
    (hr : Rb w p r.b.length r.b) (hg : GoodR r) (hn : h.length + 1 ≤ 1000) (hz : ∀ a, p = some a → Z a.block) (hd : sh ≠ mp ∧ ¬ Z sh ∧ ¬ Z mp) (hq : ∀ b, (b = m ∨ b = g ∨ b = gf) → ¬ Z b ∧ b ≠ sh ∧ b ≠ mp) (hq2 : bp ≠ sh ∧ bp ≠ mp ∧ d ≠ sh ∧ d ≠ mp)
    (hroom : (secS r : Int) + behS (stS h).1 (stS h).2 r + (totW (h.map wrS) : Int) ≤ (s : Int)) (hfit : totW (h.map wrS) + secS r ≤ s) (htu : Turns w) :
    Calls Tryz.prog 50 #[.pointer (some ⟨sh, 0, none⟩), rcV r p cp] w fun e9 w' => e9 = .returned (.int .i64 0) ∧ Kp (fun x => x = m ∨ x = g ∨ x = gf ∨ x = sh ∨ x = mp) w w' ∧ Sk w' Z sh mp g (h ++ [r]) ∧ ∃ q' T', Lg w' g bp d m gf s q' a b c e (lt + 1) y ((h ++ [r]).map wrS) dur T' := by
  obtain ⟨u1, u2, u3, u4, u5⟩ := hl.bounds
  have hbd := stS_bd x.g x.n
  have hsr := secS_le hg
  obtain ⟨t, ht⟩ : ∃ t, t = behS (stS h).1 (stS h).2 r := ⟨_, rfl⟩
  rw [← ht] at hroom
  obtain ⟨W, hW⟩ : ∃ W, W = (secS r : Int) + t := ⟨_, rfl⟩
  obtain ⟨k, hk⟩ : ∃ k, k = s - totW (h.map wrS) := ⟨_, rfl⟩
  have hWk : W ≤ (k : Int) := by omega
  have htlo : -60000 ≤ t := by
    have h1 : (0 : Int) ≤ (secS r : Int) := Int.natCast_nonneg _
    rw [ht]
    unfold behS
    cases hM : (stS h).1 (subS r) with
    | none => dsimp only; split <;> omega
    | some o =>
      have h2 := (secS_le (x.g o (hbd.2.2 _ _ hM))).2
      dsimp only
      split <;> omega
  have HW : Hid (IntKind.i64.wrap ((secS r : Int) + t) = W) := by
    have h3 : -100000 ≤ W ∧ W ≤ 100000 := by omega
    refine wrapI ?_
    rw [← hW]
    clear hroom hfit hsr hbd u1 u2 u3 u4 u5 ht hk hWk htlo hW
    unfold wrap64
    omega
  obtain ⟨r0, hr0⟩ : ∃ r0, r0 = w.heap.size := ⟨_, rfl⟩
  obtain ⟨w0, hw0⟩ : ∃ y, y = w.alloc (.cells #[.int .i64 (r.k : Int), .int .i64 (r.n : Int), .int .i64 (r.i : Int), .int .i64 (r.e : Int), .slice p r.b.length cp] 122) := ⟨_, rfl⟩
  have HK0 : Hid (Kp (fun _ => False) w w0) := by rw [hw0]; exact (Kp.refl _ _).alloc _
  have HL0 : Hid (Lv w0 r0 [.int .i64 (r.k : Int), .int .i64 (r.n : Int), .int .i64 (r.i : Int), .int .i64 (r.e : Int), .slice p r.b.length cp]) := by rw [hw0, hr0]; exact Lv.new _ _ _
  have HLg : Hid (Lg w0 g bp d m gf s q a b c e lt y (h.map wrS) dur T) := hl.keep0 HK0.out
  have HSk : Hid (Sk w0 Z sh mp g h) := x.keep HK0.out (fun e => e) (fun e => e) (fun _ _ e => e)
  have HB0 : Hid (Rb w0 p r.b.length r.b) := hr.keep0 HK0.out
  have HTu : Hid (Turns w0) := htu.keep0 HK0.out
  have HQ : Hid ((∀ b, (b = m ∨ b = g ∨ b = gf) → ¬ Z b ∧ b ≠ sh ∧ b ≠ mp) ∧ bp ≠ sh ∧ bp ≠ mp ∧ d ≠ sh ∧ d ≠ mp) := ⟨hq, hq2⟩
  have HD : Hid (sh ≠ mp ∧ ¬ Z sh ∧ ¬ Z mp) := hd
  have HG : Hid (GoodR r ∧ h.length + 1 ≤ 1000 ∧ ∀ a, p = some a → Z a.block) := ⟨hg, hn, hz⟩
  have HFt : Hid (totW (h.map wrS) + secS r ≤ s) := hfit
  have HR : Hid (r0 ≠ sh ∧ r0 ≠ mp ∧ ¬ (r0 = m ∨ r0 = g ∨ r0 = gf)) := by
    have h1 := x.l.lt (by simp)
    have h2 : mp < w.heap.size := by obtain ⟨c9, T9, _, h2, _⟩ := x.m; exact h2.lt
    have h3 := hl.blk
    exact ⟨by omega, by omega, by omega⟩
  have HSe : Hid (∀ u, Kp (fun _ => False) w0 u → Calls Tryz.prog 81 #[.agg #[.int .i64 (r.k : Int), .int .i64 (r.n : Int), .int .i64 (r.i : Int), .int .i64 (r.e : Int), .slice p r.b.length cp]] u fun e w' => e = .returned (.int .i64 (secS r : Int)) ∧ Kp (fun _ => False) u w') := fun u ku => recsec_ok r p cp u (HB0.out.keep0 ku) hg
  have HBe : Hid (∀ u, Kp (fun _ => False) w0 u → Calls Tryz.prog 82 #[.pointer (some ⟨sh, 1, none⟩), .agg #[.int .i64 (r.k : Int), .int .i64 (r.n : Int), .int .i64 (r.i : Int), .int .i64 (r.e : Int), .slice p r.b.length cp]] u fun e w' => e = .returned (.int .i64 t) ∧ Kp (fun _ => False) u w') := fun u ku => by rw [ht]; exact behind_ok (HSk.out.keep ku (fun e => e) (fun e => e) (fun _ _ e => e)) r p cp (HB0.out.keep0 ku) hg
  have HS1 : Hid (∀ z, Kp (fun _ => False) w0 z → Kp (fun _ => False) w0 z ∧ z.cell? ⟨r0, 0, none⟩ = some (.int .i64 (r.k : Int)) ∧ z.cell? ⟨r0, 1, none⟩ = some (.int .i64 (r.n : Int)) ∧ z.cell? ⟨r0, 2, none⟩ = some (.int .i64 (r.i : Int)) ∧ z.cell? ⟨r0, 3, none⟩ = some (.int .i64 (r.e : Int)) ∧ z.cell? ⟨r0, 4, none⟩ = some (.slice p r.b.length cp)) := fun z kz => ⟨kz, kz.cellv (HL0.out.cell (j := 0) rfl) id, kz.cellv (HL0.out.cell (j := 1) rfl) id, kz.cellv (HL0.out.cell (j := 2) rfl) id, kz.cellv (HL0.out.cell (j := 3) rfl) id, kz.cellv (HL0.out.cell (j := 4) rfl) id⟩
  have HTr : Hid (∀ u u' : World, Kp (fun _ => False) w0 u → Kp (fun _ => False) u u' → Kp (fun _ => False) w0 u') := fun u u' h1 h2 => h1.trans h2 (fun _ _ e => e)
  have HKk : Hid (k = s - totW (h.map wrS)) := hk
  obtain ⟨lt1, hlt1⟩ : ∃ lt1, lt1 = lt + 1 := ⟨_, rfl⟩
  have HLt1 : Hid (lt1 = lt + 1) := hlt1
  rw [← hlt1]
  clear hlt1
  show Calls Tryz.prog 50 #[.pointer (some ⟨sh, 0, none⟩), .agg #[.int .i64 (r.k : Int), .int .i64 (r.n : Int), .int .i64 (r.i : Int), .int .i64 (r.e : Int), .slice p r.b.length cp]] w _
  clear hl x hr hg hn hz hd hq hq2 hroom hfit htu u1 u2 u3 u4 u5 hbd hsr ht hW hk htlo
  go_enter Tryz.func50, Tryz.ntmps50
  go_upto_region 1 with fail
  rw [← hw0, ← hr0]
  clear hw0 hr0
  go_cut [5] (fun v wz => v = .int .i64 W ∧ Hid (Kp (fun _ => False) w0 wz))
  case first =>
    have kd : Kp (fun _ => False) w0 w0.drew := (Kp.refl _ _).drew
    have hw1 := HW.out
    go_region_held3 (fun z => Kp (fun _ => False) w0 z ∧ z.cell? ⟨r0, 0, none⟩ = some (.int .i64 (r.k : Int)) ∧ z.cell? ⟨r0, 1, none⟩ = some (.int .i64 (r.n : Int)) ∧ z.cell? ⟨r0, 2, none⟩ = some (.int .i64 (r.i : Int)) ∧ z.cell? ⟨r0, 3, none⟩ = some (.int .i64 (r.e : Int)) ∧ z.cell? ⟨r0, 4, none⟩ = some (.slice p r.b.length cp))
      (first
        | exact HS1.out _ kd
        | exact HS1.out _ kw2
        | exact HS1.out _ kw1)
      (first
        | (go_at_call 81; first | (refine (HSe.out _ kw1).mono ?_; rintro e9 w2 ⟨rfl, k2⟩; have kw2 := HTr.out _ _ kw1 k2) | (refine (HSe.out _ kd).mono ?_; rintro e9 w1 ⟨rfl, k1⟩; have kw1 := HTr.out _ _ kd k1))
        | (go_at_call 82; first | (refine (HBe.out _ kw1).mono ?_; rintro e9 w2 ⟨rfl, k2⟩; have kw2 := HTr.out _ _ kw1 k2) | (refine (HBe.out _ kd).mono ?_; rintro e9 w1 ⟨rfl, k1⟩; have kw1 := HTr.out _ _ kd k1)))
    all_goals
      go_simp
      go_wp2_with fail
      go_meet
      first
        | exact ⟨by first | rfl | rw [hw1], kw2⟩
        | trace_state
  case rest =>
    obtain ⟨rfl, HKc⟩ := hcut
    clear HS1 HTr HSe HBe HW
    have HLc : Hid (Lg wc g bp d m gf s q a b c e lt y (h.map wrS) dur T) := HLg.out.keep0 HKc.out
    have HSc : Hid (Sk wc Z sh mp g h) := HSk.out.keep HKc.out (fun e => e) (fun e => e) (fun _ _ e => e)
    have HRm : Hid (Calls Tryz.prog 83 #[.pointer (some ⟨g, 0, none⟩)] wc fun e9 w' => e9 = .returned (.int .i64 (k : Int)) ∧ w' = wc) := by rw [HKk.out]; exact room_ok HLc.out.wl
    have HRm2 := HRm
    have s0 : wc.cell? ⟨sh, 0, none⟩ = some (.pointer (some ⟨g, 0, none⟩)) := HSc.out.l.cell (j := 0) rfl
    have hlt : ¬ ((k : Int) < W) := by omega
    have HHb : Hid (w0.heap.size ≤ wc.heap.size) := HKc.out.size
    clear HLg HSk hWk
    go_wp2_with fail
    refine HRm.out.mono ?_
    rintro e9 w9 ⟨rfl, hw9⟩
    have hw8 := hw9.symm
    subst hw8
    clear hw9 HRm
    go_wp2_with fail
    refine HRm2.out.mono ?_
    rintro e9 w9 ⟨rfl, hw9⟩
    have hw8 := hw9.symm
    subst hw8
    clear hw9 HRm2
    go_upto_region 8 with fail
    have HLr : Hid (Lv wc r0 [.int .i64 (r.k : Int), .int .i64 (r.n : Int), .int .i64 (r.i : Int), .int .i64 (r.e : Int), .slice p r.b.length cp]) := HL0.out.keep HKc.out id
    have HBc : Hid (Rb wc p r.b.length r.b) := HB0.out.keep0 HKc.out
    have HTc : Hid (Turns wc) := HTu.out.keep0 HKc.out
    have HWr : Hid (∀ u, Kp (fun _ => False) wc u → Calls Tryz.prog 87 #[.agg #[.int .i64 (r.k : Int), .int .i64 (r.n : Int), .int .i64 (r.i : Int), .int .i64 (r.e : Int), .slice p r.b.length cp]] u fun e w' => ∃ v, e = .returned v ∧ Kp (fun _ => False) u w' ∧ Ow w' u.heap.size v (wrS r)) := fun u ku => written_ok r p cp u (HBc.out.keep0 ku) HG.out.1
    have HAp : Hid (∀ (u0 u : World) (v : Value), Kp (fun _ => False) wc u0 → Kp (fun _ => False) u0 u → Ow u u0.heap.size v (wrS r) → Calls Tryz.prog 86 #[.pointer (some ⟨g, 0, none⟩), v] u fun e9 w' => e9 = .returned (.tuple #[.int .i64 (lt1 : Int), .int .i64 0]) ∧ Kp (fun x => x = m ∨ x = g ∨ x = gf) wc w' ∧ ∃ q' T', Lg w' g bp d m gf s q' a b c e lt1 y (h.map wrS ++ [wrS r]) dur T') := fun u0 u v k0 k1 ov => by
      rw [HLt1.out]
      obtain ⟨q9, c9, rfl, hc9, hr9, hb9⟩ := ov.rb (wrS_b HG.out.1)
      have hln := wrS_len HG.out.1
      have ku : Kp (fun _ => False) wc u := k0.trans k1 (fun _ _ e => e)
      have hbk := HLc.out.blk
      have hsz := k0.size
      refine (lg_append (HLc.out.keep0 ku) q9 (wrS r).length c9 (wrS r) hr9 hc9 (fun z hz _ => ?_) (HTc.out.keep0 ku)).mono ?_
      · have := (hb9 z hz).1
        omega
      · rintro e9 w' (⟨hx, _, _⟩ | ⟨_, hx, _, _⟩ | ⟨_, _, rfl, kk, q', T', l', _⟩)
        · omega
        · have := HFt.out
          have e9 : secS r = needW (wrS r) := rfl
          omega
        · exact ⟨rfl, (ku.mono (fun _ _ e => e.elim)).trans kk (fun _ _ e => e), q', T', l'⟩
    have HS8 : Hid (∀ z, Kp (fun x => x = m ∨ x = g ∨ x = gf) wc z → Kp (fun x => x = m ∨ x = g ∨ x = gf) wc z ∧ z.cell? ⟨sh, 0, none⟩ = some (.pointer (some ⟨g, 0, none⟩)) ∧ z.cell? ⟨r0, 0, none⟩ = some (.int .i64 (r.k : Int)) ∧ z.cell? ⟨r0, 1, none⟩ = some (.int .i64 (r.n : Int)) ∧ z.cell? ⟨r0, 2, none⟩ = some (.int .i64 (r.i : Int)) ∧ z.cell? ⟨r0, 3, none⟩ = some (.int .i64 (r.e : Int)) ∧ z.cell? ⟨r0, 4, none⟩ = some (.slice p r.b.length cp)) := fun z kz => ⟨kz, kz.cellv (HSc.out.l.cell (j := 0) rfl) (fun e => (HQ.out.1 sh e).2.1 rfl), kz.cellv (HLr.out.cell (j := 0) rfl) HR.out.2.2, kz.cellv (HLr.out.cell (j := 1) rfl) HR.out.2.2, kz.cellv (HLr.out.cell (j := 2) rfl) HR.out.2.2, kz.cellv (HLr.out.cell (j := 3) rfl) HR.out.2.2, kz.cellv (HLr.out.cell (j := 4) rfl) HR.out.2.2⟩
    have kd0 : Kp (fun _ => False) wc wc.drew := (Kp.refl _ _).drew
    have kd8 : Kp (fun x => x = m ∨ x = g ∨ x = gf) wc wc.drew := (Kp.refl _ _).drew
    have HM8 : Hid (∀ z, Kp (fun _ => False) wc z → Kp (fun x => x = m ∨ x = g ∨ x = gf) wc z) := fun z kz => kz.mono (fun _ _ e => e.elim)
    have HT8 : Hid (∀ u u' : World, Kp (fun _ => False) wc u → Kp (fun _ => False) u u' → Kp (fun _ => False) wc u') := fun u u' h1 h2 => h1.trans h2 (fun _ _ e => e)
    clear s0 hlt
    go_region_held3 (fun z => Kp (fun x => x = m ∨ x = g ∨ x = gf) wc z ∧ z.cell? ⟨sh, 0, none⟩ = some (.pointer (some ⟨g, 0, none⟩)) ∧ z.cell? ⟨r0, 0, none⟩ = some (.int .i64 (r.k : Int)) ∧ z.cell? ⟨r0, 1, none⟩ = some (.int .i64 (r.n : Int)) ∧ z.cell? ⟨r0, 2, none⟩ = some (.int .i64 (r.i : Int)) ∧ z.cell? ⟨r0, 3, none⟩ = some (.int .i64 (r.e : Int)) ∧ z.cell? ⟨r0, 4, none⟩ = some (.slice p r.b.length cp))
      (first
        | exact HS8.out _ kd8
        | exact HS8.out _ (HM8.out _ kw1)
        | exact HS8.out _ kw8)
      (first
        | (go_at_call 87; refine (HWr.out _ kd0).mono ?_; rintro e9 w1 ⟨v1, rfl, k1, ov1⟩; have kw1 := HT8.out _ _ kd0 k1)
        | (go_at_call 86; refine (HAp.out _ _ _ kd0 k1 ov1).mono ?_; rintro e9 w8 ⟨rfl, kw8, lg8⟩))
    all_goals
      have HK8 : Hid (Kp (fun x => x = m ∨ x = g ∨ x = gf) wc w8) := kw8
      have HL8 : Hid (∃ q' T', Lg w8 g bp d m gf s q' a b c e lt1 y (h.map wrS ++ [wrS r]) dur T') := lg8
      have HS8k : Hid (Sk w8 Z sh mp g h) := HSc.out.keep kw8 (fun e => (HQ.out.1 sh e).2.1 rfl) (fun e => (HQ.out.1 mp e).2.2 rfl) (fun b hb e => (HQ.out.1 b e).1 hb)
      have HLr8 : Hid (Lv w8 r0 [.int .i64 (r.k : Int), .int .i64 (r.n : Int), .int .i64 (r.i : Int), .int .i64 (r.e : Int), .slice p r.b.length cp]) := HLr.out.keep kw8 HR.out.2.2
      have HB8 : Hid (Rb w8 p r.b.length r.b) := HBc.out.keep kw8 (fun a ha _ e => (HQ.out.1 _ e).1 (HG.out.2.2 a ha))
      clear HS8 HM8 HT8 HAp HWr kw8 lg8 kd0 kd8 kw1 k1 ov1
      have HTk : Hid (∀ u, Kp (fun _ => False) w8 u → Calls Tryz.prog 63 #[.pointer (some ⟨sh, 1, none⟩), .agg #[.int .i64 (r.k : Int), .int .i64 (r.n : Int), .int .i64 (r.i : Int), .int .i64 (r.e : Int), .slice p r.b.length cp]] u fun e w' => e = .returned (.tuple #[]) ∧ Kp (fun b => b = sh ∨ b = mp) w8 w' ∧ Sk w' Z sh mp g (h ++ [r])) := fun u ku => by
        refine (take_ok (HS8k.out.keep ku (fun e => e) (fun e => e) (fun _ _ e => e)) r p cp (HB8.out.keep0 ku) HG.out.1 HG.out.2.1 HG.out.2.2 HD.out).mono ?_
        rintro e9 w' ⟨rfl, kk, sk⟩
        exact ⟨rfl, (ku.mono (fun _ _ e => e.elim)).trans kk (fun _ _ e => e), sk⟩
      have HS11 : Hid (∀ z, Kp (fun b => b = sh ∨ b = mp) w8 z → Kp (fun b => b = sh ∨ b = mp) w8 z ∧ z.cell? ⟨r0, 0, none⟩ = some (.int .i64 (r.k : Int)) ∧ z.cell? ⟨r0, 1, none⟩ = some (.int .i64 (r.n : Int)) ∧ z.cell? ⟨r0, 2, none⟩ = some (.int .i64 (r.i : Int)) ∧ z.cell? ⟨r0, 3, none⟩ = some (.int .i64 (r.e : Int)) ∧ z.cell? ⟨r0, 4, none⟩ = some (.slice p r.b.length cp)) := fun z kz => ⟨kz, kz.cellv (HLr8.out.cell (j := 0) rfl) (fun e => e.elim HR.out.1 HR.out.2.1), kz.cellv (HLr8.out.cell (j := 1) rfl) (fun e => e.elim HR.out.1 HR.out.2.1), kz.cellv (HLr8.out.cell (j := 2) rfl) (fun e => e.elim HR.out.1 HR.out.2.1), kz.cellv (HLr8.out.cell (j := 3) rfl) (fun e => e.elim HR.out.1 HR.out.2.1), kz.cellv (HLr8.out.cell (j := 4) rfl) (fun e => e.elim HR.out.1 HR.out.2.1)⟩
      have kd1 : Kp (fun _ => False) w8 w8.drew := (Kp.refl _ _).drew
      have kd11 : Kp (fun b => b = sh ∨ b = mp) w8 w8.drew := (Kp.refl _ _).drew
      go_simp
      go_upto_region 11 with fail
      go_region_held3 (fun z => Kp (fun b => b = sh ∨ b = mp) w8 z ∧ z.cell? ⟨r0, 0, none⟩ = some (.int .i64 (r.k : Int)) ∧ z.cell? ⟨r0, 1, none⟩ = some (.int .i64 (r.n : Int)) ∧ z.cell? ⟨r0, 2, none⟩ = some (.int .i64 (r.i : Int)) ∧ z.cell? ⟨r0, 3, none⟩ = some (.int .i64 (r.e : Int)) ∧ z.cell? ⟨r0, 4, none⟩ = some (.slice p r.b.length cp))
        (first
          | exact HS11.out _ kd11
          | exact HS11.out _ kwT)
        (first
          | (go_at_call 63; refine (HTk.out _ kd1).mono ?_; rintro e9 wT ⟨rfl, kwT, skT⟩))
      obtain ⟨q', T', lgq⟩ := HL8.out
      have HF : Hid (Kp (fun x => x = m ∨ x = g ∨ x = gf ∨ x = sh ∨ x = mp) w wT ∧ Sk wT Z sh mp g (h ++ [r]) ∧ ∃ q' T', Lg wT g bp d m gf s q' a b c e lt1 y ((h ++ [r]).map wrS) dur T') := by
        have h0 : Kp (fun _ => False) w wc := HK0.out.trans HKc.out (fun _ _ e => e)
        have h1 : Kp (fun x => x = m ∨ x = g ∨ x = gf ∨ x = sh ∨ x = mp) w w8 := (h0.mono (fun _ _ e => e.elim)).trans HK8.out (fun b _ e => by
          rcases e with e | e | e
          · exact Or.inl e
          · exact Or.inr (Or.inl e)
          · exact Or.inr (Or.inr (Or.inl e)))
        refine ⟨h1.trans kwT (fun b _ e => by
          rcases e with e | e
          · exact Or.inr (Or.inr (Or.inr (Or.inl e)))
          · exact Or.inr (Or.inr (Or.inr (Or.inr e)))), skT, q', T', ?_⟩
        rw [List.map_append]
        have hQ := HQ.out
        have hgg := (hQ.1 g (Or.inr (Or.inl rfl))).2
        have hmm := (hQ.1 m (Or.inl rfl)).2
        have hff := (hQ.1 gf (Or.inr (Or.inr rfl))).2
        exact lgq.keep kwT (fun e => e.elim hgg.1 hgg.2) (fun e => e.elim hQ.2.1 hQ.2.2.1) (fun e => e.elim hQ.2.2.2.1 hQ.2.2.2.2) (fun e => e.elim hmm.1 hmm.2) (fun e => e.elim hff.1 hff.2)
      clear HS11 HTk kd1 kd11 lgq kwT skT
      go_simp
      go_wp2_with fail
      go_ret
      exact ⟨rfl, HF.out⟩
end Go.Proofs.YtippipeebkkghaaGreatDoor
