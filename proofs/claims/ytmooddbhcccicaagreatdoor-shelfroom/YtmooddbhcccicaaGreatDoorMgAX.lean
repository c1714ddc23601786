/- Texts of this proof, joined: Ii, Ij, Ik. -/
import Derived.Test.YtmooddbhcccicaaGreatDoorMgAT
import Derived.Test.YtmooddbhcccicaaGreatDoorMgAW
/- A shelf: write, where room is left. -/
namespace Go.Proofs.YtmooddbhcccicaaGreatDoor
set_option linter.unusedVariables false
set_option linter.unusedSimpArgs false
open Go.RowKit Go.Deep Go.Maps

set_option maxRecDepth 100000 in
set_option maxHeartbeats 3200000 in
theorem swrite_ok {w : World} {Z : Nat → Prop} {sh mp g bp d m gf s q a b c e lt y : Nat} {h : List Rc} {dur : List Nat} {T : Nat → Option (List Nat)} (hl : Lg w g bp d m gf s q a b c e lt y (h.map wrS) dur T) (x : Sk w Z sh mp g h) (r : Rc) (p : Option Addr) (cp : Nat)
    (hr : Rb w p r.b.length r.b) (hg : GoodR r) (hn : h.length + 1 ≤ 1000) (hz : ∀ a, p = some a → Z a.block) (hd : sh ≠ mp ∧ ¬ Z sh ∧ ¬ Z mp) (hq : ∀ b, (b = m ∨ b = g ∨ b = gf) → ¬ Z b ∧ b ≠ sh ∧ b ≠ mp) (hq2 : bp ≠ sh ∧ bp ≠ mp ∧ d ≠ sh ∧ d ≠ mp)
    (hroom : (secS r : Int) + behS (stS h).1 (stS h).2 r + (totW (h.map wrS) : Int) ≤ (s : Int)) (hfit : totW (h.map wrS) + secS r ≤ s) (htu : Turns w) :
    Calls Tryz.prog 45 #[.pointer (some ⟨sh, 0, none⟩), rcV r p cp] w fun e9 w' => e9 = .returned (.int .i64 0) ∧ Kp (fun x => x = m ∨ x = g ∨ x = gf ∨ x = sh ∨ x = mp) w w' ∧ Sk w' Z sh mp g (h ++ [r]) ∧ ∃ q' T', Lg w' g bp d m gf s q' a b c e (lt + 1) y ((h ++ [r]).map wrS) dur T' := by
  obtain ⟨u1, u2, u3, u4, u5⟩ := hl.bounds
  have hbd := stS_bd x.g x.n
  have hsr := secS_le hg
  obtain ⟨t, ht⟩ : ∃ t, t = behS (stS h).1 (stS h).2 r := ⟨_, rfl⟩
  rw [← ht] at hroom
  obtain ⟨W, hW⟩ : ∃ W, W = (secS r : Int) + t := ⟨_, rfl⟩
  obtain ⟨k, hk⟩ : ∃ k, k = s - totW (h.map wrS) := ⟨_, rfl⟩
  have hWk : W ≤ (k : Int) := by omega
  have htlo : -60000 ≤ t := by
    have h1 : (0 : Int) ≤ (secS r : Int) := Int.natCast_nonneg _
    rw [ht]
    unfold behS
    cases hM : (stS h).1 (subS r) with
    | none => dsimp only; split <;> omega
    | some o =>
      have h2 := (secS_le (x.g o (hbd.2.2 _ _ hM))).2
      dsimp only
      split <;> omega
  have HW : Hid (IntKind.i64.wrap ((secS r : Int) + t) = W) := by
    have h3 : -100000 ≤ W ∧ W ≤ 100000 := by omega
    refine wrapI ?_
    rw [← hW]
    clear hroom hfit hsr hbd u1 u2 u3 u4 u5 ht hk hWk htlo hW
    unfold wrap64
    omega
  obtain ⟨r0, hr0⟩ : ∃ r0, r0 = w.heap.size := ⟨_, rfl⟩
  obtain ⟨w0, hw0⟩ : ∃ y, y = w.alloc (.cells #[.int .i64 (r.k : Int), .int .i64 (r.n : Int), .int .i64 (r.i : Int), .int .i64 (r.e : Int), .slice p r.b.length cp] 85) := ⟨_, rfl⟩
  have HK0 : Hid (Kp (fun _ => False) w w0) := by rw [hw0]; exact (Kp.refl _ _).alloc _
  have HL0 : Hid (Lv w0 r0 [.int .i64 (r.k : Int), .int .i64 (r.n : Int), .int .i64 (r.i : Int), .int .i64 (r.e : Int), .slice p r.b.length cp]) := by rw [hw0, hr0]; exact Lv.new _ _ _
  have HLg : Hid (Lg w0 g bp d m gf s q a b c e lt y (h.map wrS) dur T) := hl.keep0 HK0.out
  have HSk : Hid (Sk w0 Z sh mp g h) := x.keep HK0.out (fun e => e) (fun e => e) (fun _ _ e => e)
  have HB0 : Hid (Rb w0 p r.b.length r.b) := hr.keep0 HK0.out
  have HTu : Hid (Turns w0) := htu.keep0 HK0.out
  have HQ : Hid ((∀ b, (b = m ∨ b = g ∨ b = gf) → ¬ Z b ∧ b ≠ sh ∧ b ≠ mp) ∧ bp ≠ sh ∧ bp ≠ mp ∧ d ≠ sh ∧ d ≠ mp) := ⟨hq, hq2⟩
  have HD : Hid (sh ≠ mp ∧ ¬ Z sh ∧ ¬ Z mp) := hd
  have HG : Hid (GoodR r ∧ h.length + 1 ≤ 1000 ∧ ∀ a, p = some a → Z a.block) := ⟨hg, hn, hz⟩
  have HFt : Hid (totW (h.map wrS) + secS r ≤ s) := hfit
  have HR : Hid (r0 ≠ sh ∧ r0 ≠ mp ∧ ¬ (r0 = m ∨ r0 = g ∨ r0 = gf)) := by
    have h1 := x.l.lt (by simp)
    have h2 : mp < w.heap.size := by obtain ⟨c9, T9, _, h2, _⟩ := x.m; exact h2.lt
    have h3 := hl.blk
    exact ⟨by omega, by omega, by omega⟩
  have HSe : Hid (∀ u, Kp (fun _ => False) w0 u → Calls Tryz.prog 80 #[.agg #[.int .i64 (r.k : Int), .int .i64 (r.n : Int), .int .i64 (r.i : Int), .int .i64 (r.e : Int), .slice p r.b.length cp]] u fun e w' => e = .returned (.int .i64 (secS r : Int)) ∧ Kp (fun _ => False) u w') := fun u ku => recsec_ok r p cp u (HB0.out.keep0 ku) hg
  have HBe : Hid (∀ u, Kp (fun _ => False) w0 u → Calls Tryz.prog 81 #[.pointer (some ⟨sh, 1, none⟩), .agg #[.int .i64 (r.k : Int), .int .i64 (r.n : Int), .int .i64 (r.i : Int), .int .i64 (r.e : Int), .slice p r.b.length cp]] u fun e w' => e = .returned (.int .i64 t) ∧ Kp (fun _ => False) u w') := fun u ku => by rw [ht]; exact behind_ok (HSk.out.keep ku (fun e => e) (fun e => e) (fun _ _ e => e)) r p cp (HB0.out.keep0 ku) hg
  have HS1 : Hid (∀ z, Kp (fun _ => False) w0 z → Kp (fun _ => False) w0 z ∧ z.cell? ⟨r0, 0, none⟩ = some (.int .i64 (r.k : Int)) ∧ z.cell? ⟨r0, 1, none⟩ = some (.int .i64 (r.n : Int)) ∧ z.cell? ⟨r0, 2, none⟩ = some (.int .i64 (r.i : Int)) ∧ z.cell? ⟨r0, 3, none⟩ = some (.int .i64 (r.e : Int)) ∧ z.cell? ⟨r0, 4, none⟩ = some (.slice p r.b.length cp)) := fun z kz => ⟨kz, kz.cellv (HL0.out.cell (j := 0) rfl) id, kz.cellv (HL0.out.cell (j := 1) rfl) id, kz.cellv (HL0.out.cell (j := 2) rfl) id, kz.cellv (HL0.out.cell (j := 3) rfl) id, kz.cellv (HL0.out.cell (j := 4) rfl) id⟩
  have HTr : Hid (∀ u u' : World, Kp (fun _ => False) w0 u → Kp (fun _ => False) u u' → Kp (fun _ => False) w0 u') := fun u u' h1 h2 => h1.trans h2 (fun _ _ e => e)
  have HKk : Hid (k = s - totW (h.map wrS)) := hk
  obtain ⟨lt1, hlt1⟩ : ∃ lt1, lt1 = lt + 1 := ⟨_, rfl⟩
  have HLt1 : Hid (lt1 = lt + 1) := hlt1
  rw [← hlt1]
  clear hlt1
  show Calls Tryz.prog 45 #[.pointer (some ⟨sh, 0, none⟩), .agg #[.int .i64 (r.k : Int), .int .i64 (r.n : Int), .int .i64 (r.i : Int), .int .i64 (r.e : Int), .slice p r.b.length cp]] w _
  clear hl x hr hg hn hz hd hq hq2 hroom hfit htu u1 u2 u3 u4 u5 hbd hsr ht hW hk htlo
  go_enter Tryz.func45, Tryz.ntmps45
  go_upto_region 1 with fail
  rw [← hw0, ← hr0]
  clear hw0 hr0
  go_cut [5] (fun v wz => v = .int .i64 W ∧ Hid (Kp (fun _ => False) w0 wz))
  case first =>
    have kd : Kp (fun _ => False) w0 w0.drew := (Kp.refl _ _).drew
    have hw1 := HW.out
    go_region_held3 (fun z => Kp (fun _ => False) w0 z ∧ z.cell? ⟨r0, 0, none⟩ = some (.int .i64 (r.k : Int)) ∧ z.cell? ⟨r0, 1, none⟩ = some (.int .i64 (r.n : Int)) ∧ z.cell? ⟨r0, 2, none⟩ = some (.int .i64 (r.i : Int)) ∧ z.cell? ⟨r0, 3, none⟩ = some (.int .i64 (r.e : Int)) ∧ z.cell? ⟨r0, 4, none⟩ = some (.slice p r.b.length cp))
      (first
        | exact HS1.out _ kd
        | exact HS1.out _ kw2
        | exact HS1.out _ kw1)
      (first
        | (go_at_call 80; first | (refine (HSe.out _ kw1).mono ?_; rintro e9 w2 ⟨rfl, k2⟩; have kw2 := HTr.out _ _ kw1 k2) | (refine (HSe.out _ kd).mono ?_; rintro e9 w1 ⟨rfl, k1⟩; have kw1 := HTr.out _ _ kd k1))
        | (go_at_call 81; first | (refine (HBe.out _ kw1).mono ?_; rintro e9 w2 ⟨rfl, k2⟩; have kw2 := HTr.out _ _ kw1 k2) | (refine (HBe.out _ kd).mono ?_; rintro e9 w1 ⟨rfl, k1⟩; have kw1 := HTr.out _ _ kd k1)))
    all_goals
      go_simp
      go_wp2_with fail
      go_meet
      first
        | exact ⟨by first | rfl | rw [hw1], kw2⟩
        | trace_state
  case rest =>
    obtain ⟨rfl, HKc⟩ := hcut
    clear HS1 HTr HSe HBe HW
    have HLc : Hid (Lg wc g bp d m gf s q a b c e lt y (h.map wrS) dur T) := HLg.out.keep0 HKc.out
    have HSc : Hid (Sk wc Z sh mp g h) := HSk.out.keep HKc.out (fun e => e) (fun e => e) (fun _ _ e => e)
    have HRm : Hid (Calls Tryz.prog 82 #[.pointer (some ⟨g, 0, none⟩)] wc fun e9 w' => e9 = .returned (.int .i64 (k : Int)) ∧ w' = wc) := by rw [HKk.out]; exact room_ok HLc.out.wl
    have HRm2 := HRm
    have s0 : wc.cell? ⟨sh, 0, none⟩ = some (.pointer (some ⟨g, 0, none⟩)) := HSc.out.l.cell (j := 0) rfl
    have hlt : ¬ ((k : Int) < W) := by omega
    have HHb : Hid (w0.heap.size ≤ wc.heap.size) := HKc.out.size
    clear HLg HSk hWk
    go_wp2_with fail
    refine HRm.out.mono ?_
    rintro e9 w9 ⟨rfl, hw9⟩
    have hw8 := hw9.symm
    subst hw8
    clear hw9 HRm
    go_wp2_with fail
    refine HRm2.out.mono ?_
    rintro e9 w9 ⟨rfl, hw9⟩
    have hw8 := hw9.symm
    subst hw8
    clear hw9 HRm2
    go_upto_region 8 with fail
    have HLr : Hid (Lv wc r0 [.int .i64 (r.k : Int), .int .i64 (r.n : Int), .int .i64 (r.i : Int), .int .i64 (r.e : Int), .slice p r.b.length cp]) := HL0.out.keep HKc.out id
    have HBc : Hid (Rb wc p r.b.length r.b) := HB0.out.keep0 HKc.out
    have HTc : Hid (Turns wc) := HTu.out.keep0 HKc.out
    have HWr : Hid (∀ u, Kp (fun _ => False) wc u → Calls Tryz.prog 86 #[.agg #[.int .i64 (r.k : Int), .int .i64 (r.n : Int), .int .i64 (r.i : Int), .int .i64 (r.e : Int), .slice p r.b.length cp]] u fun e w' => ∃ v, e = .returned v ∧ Kp (fun _ => False) u w' ∧ Ow w' u.heap.size v (wrS r)) := fun u ku => written_ok r p cp u (HBc.out.keep0 ku) HG.out.1
    have HAp : Hid (∀ (u0 u : World) (v : Value), Kp (fun _ => False) wc u0 → Kp (fun _ => False) u0 u → Ow u u0.heap.size v (wrS r) → Calls Tryz.prog 85 #[.pointer (some ⟨g, 0, none⟩), v] u fun e9 w' => e9 = .returned (.tuple #[.int .i64 (lt1 : Int), .int .i64 0]) ∧ Kp (fun x => x = m ∨ x = g ∨ x = gf) wc w' ∧ ∃ q' T', Lg w' g bp d m gf s q' a b c e lt1 y (h.map wrS ++ [wrS r]) dur T') := fun u0 u v k0 k1 ov => by
      rw [HLt1.out]
      obtain ⟨q9, c9, rfl, hc9, hr9, hb9⟩ := ov.rb (wrS_b HG.out.1)
      have hln := wrS_len HG.out.1
      have ku : Kp (fun _ => False) wc u := k0.trans k1 (fun _ _ e => e)
      have hbk := HLc.out.blk
      have hsz := k0.size
      refine (lg_append (HLc.out.keep0 ku) q9 (wrS r).length c9 (wrS r) hr9 hc9 (fun z hz _ => ?_) (HTc.out.keep0 ku)).mono ?_
      · have := (hb9 z hz).1
        omega
      · rintro e9 w' (⟨hx, _, _⟩ | ⟨_, hx, _, _⟩ | ⟨_, _, rfl, kk, q', T', l', _⟩)
        · omega
        · have := HFt.out
          have e9 : secS r = needW (wrS r) := rfl
          omega
        · exact ⟨rfl, (ku.mono (fun _ _ e => e.elim)).trans kk (fun _ _ e => e), q', T', l'⟩
    have HS8 : Hid (∀ z, Kp (fun x => x = m ∨ x = g ∨ x = gf) wc z → Kp (fun x => x = m ∨ x = g ∨ x = gf) wc z ∧ z.cell? ⟨sh, 0, none⟩ = some (.pointer (some ⟨g, 0, none⟩)) ∧ z.cell? ⟨r0, 0, none⟩ = some (.int .i64 (r.k : Int)) ∧ z.cell? ⟨r0, 1, none⟩ = some (.int .i64 (r.n : Int)) ∧ z.cell? ⟨r0, 2, none⟩ = some (.int .i64 (r.i : Int)) ∧ z.cell? ⟨r0, 3, none⟩ = some (.int .i64 (r.e : Int)) ∧ z.cell? ⟨r0, 4, none⟩ = some (.slice p r.b.length cp)) := fun z kz => ⟨kz, kz.cellv (HSc.out.l.cell (j := 0) rfl) (fun e => (HQ.out.1 sh e).2.1 rfl), kz.cellv (HLr.out.cell (j := 0) rfl) HR.out.2.2, kz.cellv (HLr.out.cell (j := 1) rfl) HR.out.2.2, kz.cellv (HLr.out.cell (j := 2) rfl) HR.out.2.2, kz.cellv (HLr.out.cell (j := 3) rfl) HR.out.2.2, kz.cellv (HLr.out.cell (j := 4) rfl) HR.out.2.2⟩
    have kd0 : Kp (fun _ => False) wc wc.drew := (Kp.refl _ _).drew
    have kd8 : Kp (fun x => x = m ∨ x = g ∨ x = gf) wc wc.drew := (Kp.refl _ _).drew
    have HM8 : Hid (∀ z, Kp (fun _ => False) wc z → Kp (fun x => x = m ∨ x = g ∨ x = gf) wc z) := fun z kz => kz.mono (fun _ _ e => e.elim)
    have HT8 : Hid (∀ u u' : World, Kp (fun _ => False) wc u → Kp (fun _ => False) u u' → Kp (fun _ => False) wc u') := fun u u' h1 h2 => h1.trans h2 (fun _ _ e => e)
    clear s0 hlt
    go_region_held3 (fun z => Kp (fun x => x = m ∨ x = g ∨ x = gf) wc z ∧ z.cell? ⟨sh, 0, none⟩ = some (.pointer (some ⟨g, 0, none⟩)) ∧ z.cell? ⟨r0, 0, none⟩ = some (.int .i64 (r.k : Int)) ∧ z.cell? ⟨r0, 1, none⟩ = some (.int .i64 (r.n : Int)) ∧ z.cell? ⟨r0, 2, none⟩ = some (.int .i64 (r.i : Int)) ∧ z.cell? ⟨r0, 3, none⟩ = some (.int .i64 (r.e : Int)) ∧ z.cell? ⟨r0, 4, none⟩ = some (.slice p r.b.length cp))
      (first
        | exact HS8.out _ kd8
        | exact HS8.out _ (HM8.out _ kw1)
        | exact HS8.out _ kw8)
      (first
        | (go_at_call 86; refine (HWr.out _ kd0).mono ?_; rintro e9 w1 ⟨v1, rfl, k1, ov1⟩; have kw1 := HT8.out _ _ kd0 k1)
        | (go_at_call 85; refine (HAp.out _ _ _ kd0 k1 ov1).mono ?_; rintro e9 w8 ⟨rfl, kw8, lg8⟩))
    all_goals
      have HK8 : Hid (Kp (fun x => x = m ∨ x = g ∨ x = gf) wc w8) := kw8
      have HL8 : Hid (∃ q' T', Lg w8 g bp d m gf s q' a b c e lt1 y (h.map wrS ++ [wrS r]) dur T') := lg8
      have HS8k : Hid (Sk w8 Z sh mp g h) := HSc.out.keep kw8 (fun e => (HQ.out.1 sh e).2.1 rfl) (fun e => (HQ.out.1 mp e).2.2 rfl) (fun b hb e => (HQ.out.1 b e).1 hb)
      have HLr8 : Hid (Lv w8 r0 [.int .i64 (r.k : Int), .int .i64 (r.n : Int), .int .i64 (r.i : Int), .int .i64 (r.e : Int), .slice p r.b.length cp]) := HLr.out.keep kw8 HR.out.2.2
      have HB8 : Hid (Rb w8 p r.b.length r.b) := HBc.out.keep kw8 (fun a ha _ e => (HQ.out.1 _ e).1 (HG.out.2.2 a ha))
      clear HS8 HM8 HT8 HAp HWr kw8 lg8 kd0 kd8 kw1 k1 ov1
      have HTk : Hid (∀ u, Kp (fun _ => False) w8 u → Calls Tryz.prog 87 #[.pointer (some ⟨sh, 1, none⟩), .agg #[.int .i64 (r.k : Int), .int .i64 (r.n : Int), .int .i64 (r.i : Int), .int .i64 (r.e : Int), .slice p r.b.length cp]] u fun e w' => e = .returned (.tuple #[]) ∧ Kp (fun b => b = sh ∨ b = mp) w8 w' ∧ Sk w' Z sh mp g (h ++ [r])) := fun u ku => by
        refine (take_ok (HS8k.out.keep ku (fun e => e) (fun e => e) (fun _ _ e => e)) r p cp (HB8.out.keep0 ku) HG.out.1 HG.out.2.1 HG.out.2.2 HD.out).mono ?_
        rintro e9 w' ⟨rfl, kk, sk⟩
        exact ⟨rfl, (ku.mono (fun _ _ e => e.elim)).trans kk (fun _ _ e => e), sk⟩
      have HS11 : Hid (∀ z, Kp (fun b => b = sh ∨ b = mp) w8 z → Kp (fun b => b = sh ∨ b = mp) w8 z ∧ z.cell? ⟨r0, 0, none⟩ = some (.int .i64 (r.k : Int)) ∧ z.cell? ⟨r0, 1, none⟩ = some (.int .i64 (r.n : Int)) ∧ z.cell? ⟨r0, 2, none⟩ = some (.int .i64 (r.i : Int)) ∧ z.cell? ⟨r0, 3, none⟩ = some (.int .i64 (r.e : Int)) ∧ z.cell? ⟨r0, 4, none⟩ = some (.slice p r.b.length cp)) := fun z kz => ⟨kz, kz.cellv (HLr8.out.cell (j := 0) rfl) (fun e => e.elim HR.out.1 HR.out.2.1), kz.cellv (HLr8.out.cell (j := 1) rfl) (fun e => e.elim HR.out.1 HR.out.2.1), kz.cellv (HLr8.out.cell (j := 2) rfl) (fun e => e.elim HR.out.1 HR.out.2.1), kz.cellv (HLr8.out.cell (j := 3) rfl) (fun e => e.elim HR.out.1 HR.out.2.1), kz.cellv (HLr8.out.cell (j := 4) rfl) (fun e => e.elim HR.out.1 HR.out.2.1)⟩
      have kd1 : Kp (fun _ => False) w8 w8.drew := (Kp.refl _ _).drew
      have kd11 : Kp (fun b => b = sh ∨ b = mp) w8 w8.drew := (Kp.refl _ _).drew
      go_simp
      go_upto_region 11 with fail
      go_region_held3 (fun z => Kp (fun b => b = sh ∨ b = mp) w8 z ∧ z.cell? ⟨r0, 0, none⟩ = some (.int .i64 (r.k : Int)) ∧ z.cell? ⟨r0, 1, none⟩ = some (.int .i64 (r.n : Int)) ∧ z.cell? ⟨r0, 2, none⟩ = some (.int .i64 (r.i : Int)) ∧ z.cell? ⟨r0, 3, none⟩ = some (.int .i64 (r.e : Int)) ∧ z.cell? ⟨r0, 4, none⟩ = some (.slice p r.b.length cp))
        (first
          | exact HS11.out _ kd11
          | exact HS11.out _ kwT)
        (first
          | (go_at_call 87; refine (HTk.out _ kd1).mono ?_; rintro e9 wT ⟨rfl, kwT, skT⟩))
      obtain ⟨q', T', lgq⟩ := HL8.out
      have HF : Hid (Kp (fun x => x = m ∨ x = g ∨ x = gf ∨ x = sh ∨ x = mp) w wT ∧ Sk wT Z sh mp g (h ++ [r]) ∧ ∃ q' T', Lg wT g bp d m gf s q' a b c e lt1 y ((h ++ [r]).map wrS) dur T') := by
        have h0 : Kp (fun _ => False) w wc := HK0.out.trans HKc.out (fun _ _ e => e)
        have h1 : Kp (fun x => x = m ∨ x = g ∨ x = gf ∨ x = sh ∨ x = mp) w w8 := (h0.mono (fun _ _ e => e.elim)).trans HK8.out (fun b _ e => by
          rcases e with e | e | e
          · exact Or.inl e
          · exact Or.inr (Or.inl e)
          · exact Or.inr (Or.inr (Or.inl e)))
        refine ⟨h1.trans kwT (fun b _ e => by
          rcases e with e | e
          · exact Or.inr (Or.inr (Or.inr (Or.inl e)))
          · exact Or.inr (Or.inr (Or.inr (Or.inr e)))), skT, q', T', ?_⟩
        rw [List.map_append]
        have hQ := HQ.out
        have hgg := (hQ.1 g (Or.inr (Or.inl rfl))).2
        have hmm := (hQ.1 m (Or.inl rfl)).2
        have hff := (hQ.1 gf (Or.inr (Or.inr rfl))).2
        exact lgq.keep kwT (fun e => e.elim hgg.1 hgg.2) (fun e => e.elim hQ.2.1 hQ.2.2.1) (fun e => e.elim hQ.2.2.2.1 hQ.2.2.2.2) (fun e => e.elim hmm.1 hmm.2) (fun e => e.elim hff.1 hff.2)
      clear HS11 HTk kd1 kd11 lgq kwT skT
      go_simp
      go_wp2_with fail
      go_ret
      exact ⟨rfl, HF.out⟩
end Go.Proofs.YtmooddbhcccicaaGreatDoor

/- A shelf whole: its log and its stock; Fence. -/
namespace Go.Proofs.YtmooddbhcccicaaGreatDoor
set_option linter.unusedVariables false
set_option linter.unusedSimpArgs false
open Go.RowKit Go.Deep Go.Maps

/-- what a call of a shelf may write -/
abbrev SW (sh mp g m gf : Nat) : Nat → Prop := fun x => x = m ∨ x = g ∨ x = gf ∨ x = sh ∨ x = mp
/-- a shelf, its log and its plate -/
structure Shf (w : World) (Z : Nat → Prop) (sh mp g bp d m gf s a b c e y : Nat) (dur : List Nat) (h : List Rc) : Prop where
  lg : ∃ q lt T, Lg w g bp d m gf s q a b c e lt y (h.map wrS) dur T
  sk : Sk w Z sh mp g h
  tu : Turns w
  ap : sh ≠ mp ∧ ¬ Z sh ∧ ¬ Z mp
  aq : ∀ x, (x = m ∨ x = g ∨ x = gf) → ¬ Z x ∧ x ≠ sh ∧ x ≠ mp
  ar : bp ≠ sh ∧ bp ≠ mp ∧ d ≠ sh ∧ d ≠ mp
  at_ : (0 : Nat) ≠ sh ∧ (0 : Nat) ≠ mp
section
variable {w : World} {Z : Nat → Prop} {sh mp g bp d m gf s a b c e y : Nat} {dur : List Nat} {h : List Rc}
theorem Shf.keep0 (x : Shf w Z sh mp g bp d m gf s a b c e y dur h) {w' : World} (k : Kp (fun _ => False) w w') : Shf w' Z sh mp g bp d m gf s a b c e y dur h := by
  obtain ⟨q, lt, T, hl⟩ := x.lg
  exact ⟨⟨q, lt, T, hl.keep0 k⟩, x.sk.keep k (fun e => e) (fun e => e) (fun _ _ e => e), x.tu.keep0 k, x.ap, x.aq, x.ar, x.at_⟩
theorem Shf.write (x : Shf w Z sh mp g bp d m gf s a b c e y dur h) (r : Rc) (p : Option Addr) (cp : Nat) (hr : Rb w p r.b.length r.b) (hg : GoodR r) (hn : h.length + 1 ≤ 1000) (hz : ∀ a, p = some a → Z a.block)
    (hroom : 2 * (secS r : Int) + (stS h).2 + (totW (h.map wrS) : Int) ≤ (s : Int)) (hfit : totW (h.map wrS) + secS r ≤ s) :
    Calls Tryz.prog 45 #[.pointer (some ⟨sh, 0, none⟩), rcV r p cp] w fun e9 w' => e9 = .returned (.int .i64 0) ∧ Kp (SW sh mp g m gf) w w' ∧ Shf w' Z sh mp g bp d m gf s a b c e y dur (h ++ [r]) := by
  obtain ⟨q, lt, T, hl⟩ := x.lg
  have h1 := behS_le (stS h).1 (stS h).2 r
  refine (swrite_ok hl x.sk r p cp hr hg hn hz x.ap x.aq x.ar (by omega) hfit x.tu).mono ?_
  rintro e9 w' ⟨rfl, k, sk, q', T', hl'⟩
  refine ⟨rfl, k, ⟨q', _, T', hl'⟩, sk, x.tu.keep k (fun e => ?_), x.ap, x.aq, x.ar, x.at_⟩
  rcases e with e | e | e | e | e
  · exact hl.lp.tm e
  · exact hl.lp.tg e
  · exact hl.lp.tf e
  · exact x.at_.1 e
  · exact x.at_.2 e
theorem rb_nil0 {w : World} : Rb w none 0 [] := ⟨rfl, fun x hx => absurd hx List.not_mem_nil, fun j hj => absurd hj (Nat.not_lt_zero _)⟩
theorem rz3 (w : World) (x y z : Int) (t : TypeId) : Rz (w.alloc (.cells #[.int .i64 x, .int .i64 y, .int .i64 z] t)) (some ⟨w.heap.size, 0, none⟩) [x, y, z] := fun j hj => by
  have hl := Lv.new w #[.int .i64 x, .int .i64 y, .int .i64 z] t
  refine ⟨w.heap.size, 0, rfl, ?_⟩
  rw [Nat.zero_add]
  match j, hj with
  | 0, _ => exact hl.cell (j := 0) rfl
  | 1, _ => exact hl.cell (j := 1) rfl
  | 2, _ => exact hl.cell (j := 2) rfl
theorem upTo3 {x y z : Nat} (hx : x ≤ 1152921504606846976) (hy : y ≤ 1152921504606846976) (hz : z ≤ 1152921504606846976) : upTo 1152921504606846976 [(x : Int), (y : Int), (z : Int)] = true := by
  unfold upTo
  simp
  omega

set_option maxRecDepth 100000 in
set_option maxHeartbeats 3200000 in
theorem sfence_new (x : Shf w Z sh mp g bp d m gf s a b c e y dur h) (bl ix ep : Nat) (hbl : bl ≤ 1152921504606846976) (hix : ix ≤ 1152921504606846976) (hep : ep ≤ 1152921504606846976) (hf : fncd h bl ix < ep) (hn : h.length + 1 ≤ 1000)
    (hroom : 2 * (secS ⟨3, bl, ix, ep, []⟩ : Int) + (stS h).2 + (totW (h.map wrS) : Int) ≤ (s : Int)) (hfit : totW (h.map wrS) + secS ⟨3, bl, ix, ep, []⟩ ≤ s) :
    Calls Tryz.prog 15 #[.pointer (some ⟨sh, 0, none⟩), .int .i64 (bl : Int), .int .i64 (ix : Int), .int .i64 (ep : Int)] w fun e9 w' => e9 = .returned (.int .i64 0) ∧ Kp (SW sh mp g m gf) w w' ∧ Shf w' Z sh mp g bp d m gf s a b c e y dur (h ++ [⟨3, bl, ix, ep, []⟩]) := by
  obtain ⟨r0, hr0⟩ : ∃ r0, r0 = w.heap.size := ⟨_, rfl⟩
  obtain ⟨w0, hw0⟩ : ∃ y, y = w.alloc (.cells #[.int .i64 (bl : Int), .int .i64 (ix : Int), .int .i64 (ep : Int)] 3) := ⟨_, rfl⟩
  have HK0 : Hid (Kp (fun _ => False) w w0) := by rw [hw0]; exact (Kp.refl _ _).alloc _
  have HS0 : Hid (Shf w0 Z sh mp g bp d m gf s a b c e y dur h) := x.keep0 HK0.out
  have HA : Hid (Calls Tryz.prog 44 #[.pointer (some ⟨sh, 0, none⟩), .slice (some ⟨r0, 0, none⟩) 3 3] w0 fun e w' => e = .returned (.int .i64 0) ∧ w' = w0) := by
    have h1 := asked_ok (HS0.out.sk.l.cell (j := 0) rfl) (some ⟨r0, 0, none⟩) 3 3 [(bl : Int), (ix : Int), (ep : Int)] (by rw [hw0, hr0]; exact rz3 w _ _ _ _) rfl (by omega)
    rw [upTo3 hbl hix hep] at h1
    exact h1
  have HFe : Hid (Calls _ _ _ w0 _) := fenced_ok HS0.out.sk bl ix hbl hix
  obtain ⟨F, hF⟩ : ∃ F, F = fncd h bl ix := ⟨_, rfl⟩
  rw [← hF] at HFe hf
  have hlt : ¬ ((ep : Int) ≤ (F : Int)) := by omega
  have HWr : Hid (Calls Tryz.prog 45 #[.pointer (some ⟨sh, 0, none⟩), .agg #[.int .i64 3, .int .i64 (bl : Int), .int .i64 (ix : Int), .int .i64 (ep : Int), .slice none 0 0]] w0 fun e9 w' => e9 = .returned (.int .i64 0) ∧ Kp (SW sh mp g m gf) w0 w' ∧ Shf w' Z sh mp g bp d m gf s a b c e y dur (h ++ [⟨3, bl, ix, ep, []⟩])) :=
    HS0.out.write ⟨3, bl, ix, ep, []⟩ none 0 rb_nil0 ⟨⟨show 1 ≤ 3 by omega, show 3 ≤ 4 by omega⟩, hbl, hix, hep, fun x hx => absurd hx List.not_mem_nil, show 0 ≤ 1980 by omega, fun _ => rfl⟩ hn (fun a ha => absurd ha (by simp)) hroom hfit
  clear x hbl hix hep hf hn hroom hfit hF
  go_enter Tryz.func15, Tryz.ntmps15
  go_wp2_with fail
  rw [← hw0, ← hr0]
  clear hw0 hr0
  refine HA.out.mono ?_
  rintro e9 w9 ⟨rfl, hw9⟩
  have hw8 := hw9.symm
  subst hw8
  clear hw9 HA
  go_wp2_with fail
  refine HFe.out.mono ?_
  rintro e9 w9 ⟨rfl, hw9⟩
  have hw8 := hw9.symm
  subst hw8
  clear hw9 HFe
  go_wp2_with fail
  refine HWr.out.mono ?_
  rintro e9 w3 ⟨rfl, k3, s3⟩
  have HF : Hid (Kp (SW sh mp g m gf) w w3 ∧ Shf w3 Z sh mp g bp d m gf s a b c e y dur (h ++ [⟨3, bl, ix, ep, []⟩])) := ⟨(HK0.out.mono (fun _ _ e => e.elim)).trans k3 (fun _ _ e => e), s3⟩
  clear k3 s3 HWr
  go_wp2_with fail
  go_ret
  exact ⟨rfl, HF.out⟩
end
end Go.Proofs.YtmooddbhcccicaaGreatDoor

/- A shelf: Drop. -/
namespace Go.Proofs.YtmooddbhcccicaaGreatDoor
set_option linter.unusedVariables false
set_option linter.unusedSimpArgs false
open Go.RowKit Go.Deep Go.Maps

theorem rz2 (w : World) (x y : Int) (t : TypeId) : Rz (w.alloc (.cells #[.int .i64 x, .int .i64 y] t)) (some ⟨w.heap.size, 0, none⟩) [x, y] := fun j hj => by
  have hl := Lv.new w #[.int .i64 x, .int .i64 y] t
  refine ⟨w.heap.size, 0, rfl, ?_⟩
  rw [Nat.zero_add]
  match j, hj with
  | 0, _ => exact hl.cell (j := 0) rfl
  | 1, _ => exact hl.cell (j := 1) rfl
theorem upTo2 {x y : Nat} (hx : x ≤ 1152921504606846976) (hy : y ≤ 1152921504606846976) : upTo 1152921504606846976 [(x : Int), (y : Int)] = true := by
  unfold upTo
  simp
  omega
section
variable {w : World} {Z : Nat → Prop} {sh mp g bp d m gf s a b c e y : Nat} {dur : List Nat} {h : List Rc}
/-- what a stock's map answers -/
theorem Sk.look (x : Sk w Z sh mp g h) (t : K3) (hw : wf3 t) : ∃ (a1 a2 a3 a4 : Int) (qq : Option Addr) (nn cc : Nat) (ok : Bool), (∀ z, Kp (fun _ => False) w z → (Instr.lookup 88 (.map (some mp)) (pv3 t) true).run Tryz.prog z = .ok (.tuple #[.agg #[.int .i64 a1, .int .i64 a2, .int .i64 a3, .int .i64 a4, .slice qq nn cc], .bool ok]) z) ∧
    ((ok = false ∧ (stS h).1 t = none) ∨ (ok = true ∧ ∃ o, (stS h).1 t = some o ∧ a1 = (o.k : Int) ∧ a2 = (o.n : Int) ∧ a3 = (o.i : Int) ∧ a4 = (o.e : Int) ∧ nn = o.b.length ∧ Rb w qq o.b.length o.b ∧ GoodR o ∧ ∀ a, qq = some a → Z a.block)) := by
  obtain ⟨c, T, hc1, hc2, hc3⟩ := x.m
  have hlk : ∀ z, Kp (fun _ => False) w z → (Instr.lookup 88 (.map (some mp)) (pv3 t) true).run Tryz.prog z = .ok (.tuple #[(T t).getD zRec, .bool (T t).isSome]) z := fun z k => look_px3_ok Tryz.underlying88 zeroRec (hc2.keep k id) hw
  cases hM : (stS h).1 t with
  | none =>
    rw [(hc3 _ hw).1 hM] at hlk
    exact ⟨0, 0, 0, 0, none, 0, 0, false, hlk, Or.inl ⟨rfl, rfl⟩⟩
  | some o =>
    obtain ⟨p2, cp2, b1, b2, b3⟩ := (hc3 _ hw).2 o hM
    rw [b1] at hlk
    exact ⟨o.k, o.n, o.i, o.e, p2, o.b.length, cp2, true, hlk, Or.inr ⟨rfl, o, rfl, rfl, rfl, rfl, rfl, rfl, b2, x.g o ((stS_bd x.g x.n).2.2 _ _ hM), b3⟩⟩

set_option maxRecDepth 100000 in
set_option maxHeartbeats 3200000 in
theorem sdrop_ok (x : Shf w Z sh mp g bp d m gf s a b c e y dur h) (bl ix : Nat) (hbl : bl ≤ 1152921504606846976) (hix : ix ≤ 1152921504606846976) (hn : h.length + 1 ≤ 1000)
    (hroom : 2 * (secS ⟨2, bl, ix, 0, []⟩ : Int) + (stS h).2 + (totW (h.map wrS) : Int) ≤ (s : Int)) (hfit : totW (h.map wrS) + secS ⟨2, bl, ix, 0, []⟩ ≤ s) :
    Calls Tryz.prog 22 #[.pointer (some ⟨sh, 0, none⟩), .int .i64 (bl : Int), .int .i64 (ix : Int)] w fun e9 w' =>
      ((stS h).1 ⟨1, (bl : Int), (ix : Int)⟩ = none ∧ e9 = .returned (.int .i64 80) ∧ Kp (fun _ => False) w w') ∨
      ((∃ o, (stS h).1 ⟨1, (bl : Int), (ix : Int)⟩ = some o) ∧ e9 = .returned (.int .i64 0) ∧ Kp (SW sh mp g m gf) w w' ∧ Shf w' Z sh mp g bp d m gf s a b c e y dur (h ++ [⟨2, bl, ix, 0, []⟩])) := by
  obtain ⟨r0, hr0⟩ : ∃ r0, r0 = w.heap.size := ⟨_, rfl⟩
  obtain ⟨w0, hw0⟩ : ∃ y, y = w.alloc (.cells #[.int .i64 (bl : Int), .int .i64 (ix : Int)] 3) := ⟨_, rfl⟩
  have HK0 : Hid (Kp (fun _ => False) w w0) := by rw [hw0]; exact (Kp.refl _ _).alloc _
  have HS0 : Hid (Shf w0 Z sh mp g bp d m gf s a b c e y dur h) := x.keep0 HK0.out
  have HA : Hid (Calls Tryz.prog 44 #[.pointer (some ⟨sh, 0, none⟩), .slice (some ⟨r0, 0, none⟩) 2 2] w0 fun e w' => e = .returned (.int .i64 0) ∧ w' = w0) := by
    have h1 := asked_ok (HS0.out.sk.l.cell (j := 0) rfl) (some ⟨r0, 0, none⟩) 2 2 [(bl : Int), (ix : Int)] (by rw [hw0, hr0]; exact rz2 w _ _ _) rfl (by omega)
    rw [upTo2 hbl hix] at h1
    exact h1
  have hwf : wf3 ⟨1, (bl : Int), (ix : Int)⟩ := ⟨wf_n60 (n := 1) (by omega), wf_n60 hbl, wf_n60 hix⟩
  obtain ⟨a1, a2, a3, a4, qq, nn, cc, ok, hlk, hM⟩ := HS0.out.sk.look _ hwf
  have hlk0 : (Instr.lookup 88 (.map (some mp)) (.agg #[.int .i64 1, .int .i64 (bl : Int), .int .i64 (ix : Int)]) true).run Tryz.prog w0 = .ok (.tuple #[.agg #[.int .i64 a1, .int .i64 a2, .int .i64 a3, .int .i64 a4, .slice qq nn cc], .bool ok]) w0 := hlk w0 (Kp.refl _ _)
  have HM : Hid ((ok = false ∧ (stS h).1 ⟨1, (bl : Int), (ix : Int)⟩ = none) ∨ (ok = true ∧ ∃ o, (stS h).1 ⟨1, (bl : Int), (ix : Int)⟩ = some o)) := by
    rcases hM with hM | ⟨h1, o, h2, _⟩
    · exact Or.inl hM
    · exact Or.inr ⟨h1, o, h2⟩
  have HWr : Hid (∀ u, Kp (fun _ => False) w0 u → Calls Tryz.prog 45 #[.pointer (some ⟨sh, 0, none⟩), .agg #[.int .i64 2, .int .i64 (bl : Int), .int .i64 (ix : Int), .int .i64 0, .slice none 0 0]] u fun e9 w' => e9 = .returned (.int .i64 0) ∧ Kp (SW sh mp g m gf) u w' ∧ Shf w' Z sh mp g bp d m gf s a b c e y dur (h ++ [⟨2, bl, ix, 0, []⟩])) := fun u ku =>
    (HS0.out.keep0 ku).write ⟨2, bl, ix, 0, []⟩ none 0 rb_nil0 ⟨⟨show 1 ≤ 2 by omega, show 2 ≤ 4 by omega⟩, hbl, hix, show 0 ≤ 1152921504606846976 by omega, fun x hx => absurd hx List.not_mem_nil, show 0 ≤ 1980 by omega, fun _ => rfl⟩ hn (fun a ha => absurd ha (by simp)) hroom hfit
  have c1 : w0.cell? ⟨sh, 1, none⟩ = some (.map (some mp)) := HS0.out.sk.l.cell (j := 1) rfl
  clear x hbl hix hn hroom hfit hwf hlk hM
  go_enter Tryz.func22, Tryz.ntmps22
  go_wp2_with fail
  rw [← hw0, ← hr0]
  clear hw0 hr0
  refine HA.out.mono ?_
  rintro e9 w9 ⟨rfl, hw9⟩
  have hw8 := hw9.symm
  subst hw8
  clear hw9 HA
  have HKa : Hid (∀ o : Obj, Kp (fun _ => False) w0 (w0.alloc o)) := fun o => (Kp.refl _ _).alloc o
  rcases HM.out with ⟨rfl, hno⟩ | ⟨rfl, hyes⟩
  · have HN : Hid ((stS h).1 ⟨1, (bl : Int), (ix : Int)⟩ = none) := hno
    clear hno HM HWr
    go_wp2_with fail
    go_ret
    exact Or.inl ⟨HN.out, rfl, HK0.out.trans (HKa.out _) (fun _ _ e => e)⟩
  · have HY : Hid (∃ o, (stS h).1 ⟨1, (bl : Int), (ix : Int)⟩ = some o) := hyes
    clear hyes HM
    go_wp2_with fail
    refine (HWr.out _ (HKa.out _)).mono ?_
    rintro e9 w3 ⟨rfl, k3, s3⟩
    have HF : Hid (Kp (SW sh mp g m gf) w w3 ∧ Shf w3 Z sh mp g bp d m gf s a b c e y dur (h ++ [⟨2, bl, ix, 0, []⟩])) := ⟨((HK0.out.trans (HKa.out _) (fun _ _ e => e)).mono (fun _ _ e => e.elim)).trans k3 (fun _ _ e => e), s3⟩
    clear k3 s3 HWr
    go_wp2_with fail
    go_ret
    exact Or.inr ⟨HY.out, rfl, HF.out⟩
end
end Go.Proofs.YtmooddbhcccicaaGreatDoor
