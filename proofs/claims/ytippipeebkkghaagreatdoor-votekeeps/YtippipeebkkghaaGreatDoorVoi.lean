/- An acceptor's notes: promise. -/
import Derived.Test.YtippipeebkkghaaGreatDoorVoh
namespace Go.Proofs.YtippipeebkkghaaGreatDoor
set_option linter.unusedVariables false
set_option linter.unusedSimpArgs false
open Go.RowKit Go.Deep Go.Maps

/-- an acceptor's shelf behind a call -/
def Res (w' : World) (Z : Nat → Prop) (w0 sh mp g bp d m gf b N k hi : Nat) (V : Nat → Nat) : Prop := ∃ Z' gf' N' h', (gf' = gf ∨ w0 ≤ gf') ∧ N' ≤ N + k ∧ Shr w' Z' sh mp g bp d m gf' 398 b N' h' ∧ Hs h' hi V ∧ ∀ v, Z' v → Z v ∨ w0 ≤ v

theorem Res.mono {w' : World} {Z : Nat → Prop} {w0 w1 sh mp g bp d m gf b N k k2 hi : Nat} {V : Nat → Nat} (x : Res w' Z w0 sh mp g bp d m gf b N k hi V) (hw : w1 ≤ w0) (hk : k ≤ k2) : Res w' Z w1 sh mp g bp d m gf b N k2 hi V := by
  obtain ⟨Z', gf', N', h', e, hn, a, b, c⟩ := x
  exact ⟨Z', gf', N', h', e.imp id (fun e => Nat.le_trans hw e), by omega, a, b, fun v hv => (c v hv).imp id (fun e => Nat.le_trans hw e)⟩

section
variable {w : World} {Z : Nat → Prop} {sh mp g bp d m gf b N : Nat} {h : List Rc} {hi : Nat} {V : Nat → Nat}

theorem noteP_ok (x : Shr w Z sh mp g bp d m gf 398 b N h) (hs : Hs h hi V) (bt : Nat) (hb : 1 ≤ bt ∧ bt ≤ 20) (hN : N + 1 ≤ 1000) {B : Nat} {v : Value} (o : Ow w B v [1, bt]) :
    Calls Tryz.prog 23 #[.pointer (some ⟨sh, 0, none⟩), .int .i64 0, v] w fun e9 w' => e9 = .returned (.int .i64 0) ∧ Kp (SW6 sh mp g m gf d) w w' ∧ Res w' Z w.heap.size sh mp g bp d m gf b N 1 bt V := by
  have hb256 : ∀ z ∈ [1, bt], z < 256 := fun z hz => by
    simp only [List.mem_cons, List.not_mem_nil, or_false] at hz
    omega
  obtain ⟨p, c, rfl, hc, hr, _⟩ := o.rb hb256
  have hg : Gr ⟨4, 0, 0, 0, [1, bt]⟩ := Or.inl ⟨bt, hb.1, hb.2, rfl⟩
  have h1 := hg.sec
  have h2 := hs.le
  refine (rnote_ok x 0 (by omega) p 2 c [1, bt] hr rfl (by omega) hb256 hN (by omega)).mono ?_
  rintro e9 w' (⟨hsame, rfl, k⟩ | ⟨_, rfl, k, Z', gf', h', e, hs', he, hg', hz'⟩)
  · have e := hs.same0 hsame
    subst e
    exact ⟨rfl, k.mono (fun _ _ e => e.elim), Z, gf, N, h, Or.inl rfl, by omega, x.keep0 k, hs, fun v hv => Or.inl hv⟩
  · exact ⟨rfl, k, Z', gf', N + 1, h', e, Nat.le_refl _, hs', hs.promise hb.1 hb.2 he hg', hz'⟩

theorem noteV_ok (x : Shr w Z sh mp g bp d m gf 398 b N h) (hs : Hs h hi V) (s bt : Nat) (hs5 : 1 ≤ s ∧ s ≤ 5) (hb : 1 ≤ bt ∧ bt ≤ 20) (hN : N + 1 ≤ 1000) {B : Nat} {v : Value} (o : Ow w B v (votB bt)) :
    Calls Tryz.prog 23 #[.pointer (some ⟨sh, 0, none⟩), .int .i64 (s : Int), v] w fun e9 w' => e9 = .returned (.int .i64 0) ∧ Kp (SW6 sh mp g m gf d) w w' ∧ Res w' Z w.heap.size sh mp g bp d m gf b N 1 hi (fun t => if t = s then bt else V t) := by
  have hlen : (votB bt).length = 15 := by rw [votB_eq hb.1 hb.2]; rfl
  have hb256 : ∀ z ∈ votB bt, z < 256 := fun z hz => by
    rw [votB_eq hb.1 hb.2] at hz
    simp only [List.mem_cons, List.not_mem_nil, or_false] at hz
    omega
  obtain ⟨p, c, rfl, hc, hr, _⟩ := o.rb hb256
  have hg : Gr ⟨4, s, 0, 0, votB bt⟩ := Or.inr ⟨s, bt, hs5, hb, rfl⟩
  have h1 := hg.sec
  have h2 := hs.le
  refine (rnote_ok x s (by omega) p _ c (votB bt) hr rfl (by omega) hb256 hN (by omega)).mono ?_
  rintro e9 w' (⟨hsame, rfl, k⟩ | ⟨_, rfl, k, Z', gf', h', e, hs', he, hg', hz'⟩)
  · have e := hs.sameS hs5 hb.1 hb.2 hsame
    have eV : (fun t => if t = s then bt else V t) = V := by
      funext t
      by_cases e2 : t = s
      · rw [if_pos e2, e2, e]
      · rw [if_neg e2]
    rw [eV]
    exact ⟨rfl, k.mono (fun _ _ e => e.elim), Z, gf, N, h, Or.inl rfl, by omega, x.keep0 k, hs, fun v hv => Or.inl hv⟩
  · exact ⟨rfl, k, Z', gf', N + 1, h', e, Nat.le_refl _, hs', hs.vote hs5 hb.1 hb.2 he hg', hz'⟩

set_option maxRecDepth 100000 in
set_option maxHeartbeats 3200000 in
theorem promise_ok {ac : Nat} (x : Shr w Z sh mp g bp d m gf 398 b N h) (hs : Hs h hi V) (hc : w.cell? ⟨ac, 0, none⟩ = some (.pointer (some ⟨sh, 0, none⟩))) (hna : ¬ SW6 sh mp g m gf d ac) (bt : Nat) (hb : 1 ≤ bt ∧ bt ≤ 20) (hN : N + 1 ≤ 1000) :
    Calls Tryz.prog 20 #[.pointer (some ⟨ac, 0, none⟩), .agg #[.int .i64 (bt : Int)]] w fun e9 w' => e9 = .returned (.int .i64 0) ∧ Kp (SW6 sh mp g m gf d) w w' ∧ Res w' Z w.heap.size sh mp g bp d m gf b N 1 bt V := by
  obtain ⟨h0, hh0⟩ : ∃ y, y = w.heap.size := ⟨_, rfl⟩
  obtain ⟨w0, hw0⟩ : ∃ y, y = w.alloc (.cells #[.int .i64 (bt : Int)] 68) := ⟨_, rfl⟩
  have HK0 : Hid (Kp (fun _ => False) w w0) := by rw [hw0]; exact (Kp.refl _ _).alloc _
  have HL0 : Hid (Lv w0 h0 [.int .i64 (bt : Int)]) := by rw [hw0, hh0]; exact Lv.new _ _ _
  have hc0 : w0.cell? ⟨ac, 0, none⟩ = some (.pointer (some ⟨sh, 0, none⟩)) := HK0.out.cellv hc id
  have HS : Hid (Shr w Z sh mp g bp d m gf 398 b N h) := x
  have HSB : Hid (∀ v, SW6 sh mp g m gf d v → v < w.heap.size) := x.blk
  have HP : Hid (∀ u, Kp (fun _ => False) w0 u → Calls Tryz.prog 19 #[.pointer (some ⟨ac, 0, none⟩)] u fun e w' => e = .returned (.agg #[.int .i64 (hi : Int)]) ∧ Kp (fun _ => False) u w') := fun u k => promised_ok ((x.keep0 HK0.out).keep0 k).sk hs (k.cellv hc0 id)
  have HWt : Hid (∀ u, Calls Tryz.prog 24 #[.agg #[.int .i64 (bt : Int)]] u fun e w' => ∃ v, e = .returned v ∧ Kp (fun _ => False) u w' ∧ Ow w' u.heap.size v [1, bt]) := fun u => by
    have h9 := vwritten_ok bt (by omega) u
    rw [numB_one hb.1 hb.2] at h9
    exact h9
  have HNo : Hid (∀ (u : World) (B : Nat) (v : Value), Kp (fun _ => False) w0 u → Ow u B v [1, bt] → Calls Tryz.prog 23 #[.pointer (some ⟨sh, 0, none⟩), .int .i64 0, v] u fun e9 w' => e9 = .returned (.int .i64 0) ∧ Kp (SW6 sh mp g m gf d) u w' ∧ Res w' Z w.heap.size sh mp g bp d m gf b N 1 bt V) := fun u B v k o => by
    have k9 : Kp (fun _ => False) w u := HK0.out.trans k (fun _ _ e => e)
    exact (noteP_ok (x.keep0 k9) hs bt hb hN o).mono (fun e9 w' hh => ⟨hh.1, hh.2.1, hh.2.2.mono k9.size (Nat.le_refl _)⟩)
  have HSm : Hid (bt = hi → ∀ u, Kp (fun _ => False) w0 u → Res u Z w.heap.size sh mp g bp d m gf b N 1 bt V) := fun e u k => ⟨Z, gf, N, h, Or.inl rfl, by omega, x.keep0 (HK0.out.trans k (fun _ _ e => e)), by rw [e]; exact hs, fun v hv => Or.inl hv⟩
  have HB : Hid (h0 = w.heap.size) := hh0
  have HNac : Hid (¬ SW6 sh mp g m gf d ac) := hna
  clear x hs hc hN hna
  go_enter Tryz.func20, Tryz.ntmps20
  go_upto_region 1 with fail
  rw [← hw0, ← hh0]
  clear hw0 hh0
  have kd : Kp (fun _ => False) w0 w0.drew := (Kp.refl _ _).drew
  have HS1 : Hid (∀ z, Kp (fun _ => False) w0 z → Kp (fun _ => False) w0 z ∧ z.cell? ⟨h0, 0, none⟩ = some (.int .i64 (bt : Int)) ∧ z.cell? ⟨ac, 0, none⟩ = some (.pointer (some ⟨sh, 0, none⟩))) := fun z k => ⟨k, k.cellv (HL0.out.cell (j := 0) rfl) id, k.cellv hc0 id⟩
  have HTr : Hid (∀ u u' : World, Kp (fun _ => False) w0 u → Kp (fun _ => False) u u' → Kp (fun _ => False) w0 u') := fun u u' h1 h2 => h1.trans h2 (fun _ _ e => e)
  by_cases heq : bt = hi
  · subst heq
    go_cut [8] (fun v8 wz => v8 = .bool true ∧ Hid (Kp (fun _ => False) w0 wz))
    case first =>
      clear HNo HWt HSm
      go_region_held3 (fun z => Kp (fun _ => False) w0 z ∧ z.cell? ⟨h0, 0, none⟩ = some (.int .i64 (bt : Int)) ∧ z.cell? ⟨ac, 0, none⟩ = some (.pointer (some ⟨sh, 0, none⟩)))
        (first
          | exact HS1.out _ kd
          | exact HS1.out _ kw1)
        (first
          | (go_at_call 19; refine (HP.out _ kd).mono ?_; rintro e9 w7 ⟨rfl, k7⟩; have kw1 := HTr.out _ _ kd k7))
      all_goals
        go_simp
        go_wp2_with fail
        go_meet
        first
          | exact ⟨rfl, kw1⟩
          | trace_state
    case rest =>
      obtain ⟨rfl, HKc⟩ := hcut
      have HF : Hid (Kp (SW6 sh mp g m gf d) w wc ∧ Res wc Z w.heap.size sh mp g bp d m gf b N 1 bt V) := ⟨(HK0.out.trans HKc.out (fun _ _ e => e)).mono (fun _ _ e => e.elim), HSm.out rfl wc HKc.out⟩
      clear HNo HWt HSm HP HS1 kd
      go_wp2_with fail
      go_ret
      exact ⟨rfl, HF.out⟩
  · have hne : ¬ ((bt : Int) = (hi : Int)) := by omega
    have hne2 : ((bt : Int) == (hi : Int)) = false := by simpa using hne
    go_cut [8] (fun v8 wz => v8 = .bool false ∧ Hid (Kp (fun _ => False) w0 wz))
    case first =>
      clear HNo HWt HSm
      go_region_held3 (fun z => Kp (fun _ => False) w0 z ∧ z.cell? ⟨h0, 0, none⟩ = some (.int .i64 (bt : Int)) ∧ z.cell? ⟨ac, 0, none⟩ = some (.pointer (some ⟨sh, 0, none⟩)))
        (first
          | exact HS1.out _ kd
          | exact HS1.out _ kw1)
        (first
          | (go_at_call 19; refine (HP.out _ kd).mono ?_; rintro e9 w7 ⟨rfl, k7⟩; have kw1 := HTr.out _ _ kd k7))
      all_goals
        go_simp
        go_wp2_with fail
        go_meet
        first
          | exact ⟨rfl, kw1⟩
          | trace_state
    case rest =>
      obtain ⟨rfl, HKc⟩ := hcut
      clear HS1 kd HP HSm hne hne2 heq
      have kd : Kp (fun _ => False) wc wc.drew := (Kp.refl _ _).drew
      have HNa : Hid (¬ SW6 sh mp g m gf d h0) := fun e => by have h1 := HSB.out _ e; have h2 := HB.out; omega
      have HS1 : Hid (∀ z, Kp (fun _ => False) wc z → Kp (SW6 sh mp g m gf d) wc z ∧ z.cell? ⟨h0, 0, none⟩ = some (.int .i64 (bt : Int)) ∧ z.cell? ⟨ac, 0, none⟩ = some (.pointer (some ⟨sh, 0, none⟩))) := fun z k => ⟨k.mono (fun _ _ e => e.elim), (HKc.out.trans k (fun _ _ e => e)).cellv (HL0.out.cell (j := 0) rfl) id, (HKc.out.trans k (fun _ _ e => e)).cellv hc0 id⟩
      have HSt : Hid (∀ z z2, Kp (fun _ => False) wc z → Kp (SW6 sh mp g m gf d) z z2 → Kp (SW6 sh mp g m gf d) wc z2 ∧ z2.cell? ⟨h0, 0, none⟩ = some (.int .i64 (bt : Int)) ∧ z2.cell? ⟨ac, 0, none⟩ = some (.pointer (some ⟨sh, 0, none⟩))) := fun z z2 k k2 => ⟨(k.mono (fun _ _ e => e.elim)).trans k2 (fun _ _ e => e), k2.cellv ((HKc.out.trans k (fun _ _ e => e)).cellv (HL0.out.cell (j := 0) rfl) id) HNa.out, k2.cellv ((HKc.out.trans k (fun _ _ e => e)).cellv hc0 id) HNac.out⟩
      have HTc : Hid (∀ u u' : World, Kp (fun _ => False) wc u → Kp (fun _ => False) u u' → Kp (fun _ => False) wc u') := fun u u' h1 h2 => h1.trans h2 (fun _ _ e => e)
      have HNc : Hid (∀ (u : World) (B : Nat) (v : Value), Kp (fun _ => False) wc u → Ow u B v [1, bt] → Calls Tryz.prog 23 #[.pointer (some ⟨sh, 0, none⟩), .int .i64 0, v] u fun e9 w' => e9 = .returned (.int .i64 0) ∧ Kp (SW6 sh mp g m gf d) u w' ∧ Res w' Z w.heap.size sh mp g bp d m gf b N 1 bt V) := fun u B v k o => HNo.out u B v (HKc.out.trans k (fun _ _ e => e)) o
      have HKw : Hid (Kp (fun _ => False) w wc) := HK0.out.trans HKc.out (fun _ _ e => e)
      clear HNo HTr HKc HL0 HS
      go_upto_region 3 with fail
      go_region_held3 (fun z => Kp (SW6 sh mp g m gf d) wc z ∧ z.cell? ⟨h0, 0, none⟩ = some (.int .i64 (bt : Int)) ∧ z.cell? ⟨ac, 0, none⟩ = some (.pointer (some ⟨sh, 0, none⟩)))
        (first
          | exact HS1.out _ kd
          | exact HS1.out _ kw1
          | exact HSt.out _ _ kw1 k8)
        (first
          | (go_at_call 24; refine (HWt.out _).mono ?_; rintro e9 w7 ⟨v7, rfl, k7, o7⟩; have kw1 := HTc.out _ _ kd k7)
          | (go_at_call 23; refine (HNc.out _ _ _ kw1 o7).mono ?_; rintro e9 w8 ⟨rfl, k8, s8⟩))
      all_goals
        have HF : Hid (Kp (SW6 sh mp g m gf d) w w8 ∧ Res w8 Z w.heap.size sh mp g bp d m gf b N 1 bt V) := ⟨((HKw.out.trans kw1 (fun _ _ e => e)).mono (fun _ _ e => e.elim)).trans k8 (fun _ _ e => e), s8⟩
        clear HS1 HSt HNc HWt HTc kd kw1 k7 o7 k8 s8
        go_simp
        go_wp2_with fail
        go_ret
        exact ⟨rfl, HF.out⟩
end
end Go.Proofs.YtippipeebkkghaaGreatDoor
