/- The verifier's written, with what the sectors were. -/
import Derived.Test.YtfaaikblkakiaaaTg
namespace Go.Proofs.Ytfaaikblkakiaaa
open Go.RowKit Go.Deep Go.Maps

/-- the durable bytes of a sector -/
def secOf (dur : List Nat) (i : Nat) : List Nat := (dur.drop (i * 64)).take 64
/-- the block of a slice's cells -/
def blkOf : Value → Option Nat
  | .slice (some a) _ _ => some a.block
  | _ => none
def capOf : Value → Nat
  | .slice _ _ c => c
  | _ => 0
/-- a slice that lies elsewhere than at t2, and has its 64 bytes -/
def Vok (t2 : Nat) (v : Value) : Prop := blkOf v ≠ some t2 ∧ 64 ≤ capOf v
/-- what the sectors were: texts of 64 bytes each at row t2, which is no other's -/
structure Wv (w : World) (b d m t t2 : Nat) (N : Nat → List Nat) : Prop where
  top : ∃ cp V, 6 ≤ cp ∧ w.rowIs t2 32 cp V ∧ ∀ r, r < 6 → ∃ bb o c, V r = .slice (some ⟨bb, o, none⟩) 64 c ∧ 64 ≤ c ∧ Rb w (some ⟨bb, o, none⟩) 64 (N r) ∧ bb ≠ t2 ∧ bb ≠ t ∧ bb ≠ d ∧ bb ≠ m ∧ bb ≠ b
  ne : t2 ≠ b ∧ t2 ≠ d ∧ t2 ≠ m ∧ t2 ≠ t
theorem Wv.keep {S : Nat → Prop} {w w' : World} {b d m t t2 : Nat} {N : Nat → List Nat} (h : Wv w b d m t t2 N) (k : Kp S w w') (hS : ∀ x, S x → x = b ∨ x = d ∨ x = m ∨ x = t) : Wv w' b d m t t2 N := by
  obtain ⟨cp, V, hc, hr, hv⟩ := h.top
  obtain ⟨n1, n2, n3, n4⟩ := h.ne
  refine ⟨⟨cp, V, hc, k.row hr (fun e => by rcases hS _ e with h1 | h1 | h1 | h1 <;> contradiction), fun r hr => ?_⟩, h.ne⟩
  obtain ⟨bb, o, c, h1, hcc, h2, h3, h4, h5, h6, h7⟩ := hv r hr
  exact ⟨bb, o, c, h1, hcc, h2.keep k (fun a ha _ e => by cases ha; rcases hS _ e with h1 | h1 | h1 | h1 <;> contradiction), h3, h4, h5, h6, h7⟩
theorem Wv.of_gt {w : World} {base b d m t : Nat} {v : Value} {xs : List Value} {N : Nat → List Nat} (h : Gt w base v 6 xs N) (hN : ∀ r, r < 6 → (N r).length = 64) (hb : b < base) (hd : d < base) (hm : m < base) (ht : t < base) : ∃ t2 c2, v = .slice (some ⟨t2, 0, none⟩) 6 c2 ∧ base ≤ t2 ∧ t2 < w.heap.size ∧ 6 ≤ c2 ∧ Wv w b d m t t2 N := by
  rcases h.own.2 with ⟨_, e2⟩ | ⟨g, cap, cur, e, hg, hh, h1, h2, h3, h4⟩
  · omega
  · subst e
    refine ⟨g, cap, rfl, hg, (Array.getElem?_eq_some_iff.1 hh).1, h1, ⟨cap, fun j => (cur[j]?).getD (.slice none 0 0), h1, ⟨cur, hh, by omega, fun j hj => ?_⟩, fun r hr => ?_⟩, by omega, by omega, by omega, by omega⟩
    · dsimp only; rw [Array.getElem?_eq_getElem (by omega)]; rfl
    · obtain ⟨p, n, c, ex, rb, hc, hp⟩ := h.txt r hr
      have hn : n = 64 := by rw [← rb.len]; exact hN r hr
      subst hn
      obtain ⟨bb, o, rfl, _⟩ := rb.pt (by omega)
      have h5 : (cur.toList.take (6 * 1))[r]? = xs[r]? := by rw [h4]
      rw [List.getElem?_take_of_lt (by omega), Array.getElem?_toList, ex] at h5
      have := hp _ rfl
      have hne : g ≠ bb := fun e => this.2.2 (by rw [e]; rfl)
      have hbb := this.1
      simp only at hbb
      exact ⟨bb, o, c, by dsimp only; rw [h5]; rfl, hc, rb, fun e => hne e.symm, by omega, by omega, by omega, by omega⟩
/-- what written leaves -/
structure Wst2 (w w' : World) (b d m q t t2 : Nat) : Prop where
  kp : Kp (fun _ => False) w w'
  many : (q : Int) ≤ 9223372036854775807
  lo : w.heap.size ≤ b ∧ w.heap.size ≤ d ∧ w.heap.size ≤ m ∧ w.heap.size ≤ t ∧ w.heap.size ≤ t2
  ex : ∃ (V : Nat → Value) (N : Nat → List Nat) (dur : List Nat) (T : Nat → Option (List Nat)), Pt w' b d m 6 q dur T ∧ Nows w' b d m t 6 V N ∧ (∀ i, i < 6 → N i = nowOf dur T i) ∧ (∀ i, i < 6 → Vok t2 (V i)) ∧ Wv w' b d m t t2 (secOf dur)

set_option maxRecDepth 100000 in
set_option maxHeartbeats 1600000 in
theorem written_was (v : Value) (L : Nat) (w : World) (h : Dos w v L) :
    Calls Try.prog 21 #[v] w fun e w' => ∃ (b d m q t t2 c2 : Nat), e = .returned (.tuple #[.pointer (some ⟨b, 0, none⟩), .slice (some ⟨t2, 0, none⟩) 6 c2, .slice (some ⟨t, 0, none⟩) 6 6]) ∧ 6 ≤ c2 ∧ Wst2 w w' b d m q t t2 := by
  obtain ⟨g, gb, go, cap, rfl, hg, hD⟩ := h.form
  have HD : Hid _ := hD
  have HL := h.many
  clear hD h
  have H1 : Hid (Calls _ _ _ w _) := new_ok 6 w (by omega) (by omega)
  go_enter Try.func21, Try.ntmps21
  go_wp2_with fail
  refine H1.out.mono ?_
  rintro e w1 ⟨b, d, m, rfl, k1, hb, hd, hm, hP⟩
  have HI : Hid (∀ w', Kp (fun _ => False) w1 w' → Calls _ _ _ w' _) := fun w' k' => image_ok (hP.keep k' id id id)
  clear H1
  go_wp2_with fail
  refine (HI.out _ (Kp.refl _ _)).mono ?_
  rintro e w2 ⟨t2, V2, rfl, k2, z2, r2, o2⟩
  go_wp2_with fail
  refine (HI.out _ k2).mono ?_
  rintro e w3 ⟨t, V, rfl, k3, z3, r3, o3⟩
  have hP3 := hP.keep (k2.trans k3 (fun _ _ e => e)) id id id
  have hlt1 := hP.lt
  have hdl : d < w1.heap.size := hP.row.lt
  have hml := hP.mp.lt
  have hsz2 := k2.size
  have hNw : Nows w3 b d m t 6 V (fun i => nowOf (List.replicate (6 * 64) 0) (fun _ => none) i) := by
    refine ⟨r3, fun r hr => ?_, by omega, by omega, by omega⟩
    have ho := o3 r hr
    have hs := hP3.durSec (i := r) hr
    obtain ⟨p, c, ev, _, rb, hbk⟩ := ho.rb hs.2
    rw [hs.1] at ev rb
    obtain ⟨bb, o, rfl, _⟩ := rb.pt (by omega)
    have := (hbk _ rfl).1
    simp only at this
    exact ⟨bb, o, c, ev, rb, by omega, by omega, by omega, by omega⟩
  have kw3 := k1.trans (k2.trans k3 (fun _ _ e => e)) (fun _ _ e => e)
  have hlt2 := r2.lt
  have hWv : Wv w3 b d m t t2 (secOf (List.replicate (6 * 64) 0)) := by
    refine ⟨⟨6, V2, Nat.le_refl _, k3.row r2 id, fun r hr => ?_⟩, by omega, by omega, by omega, by omega⟩
    have ho := o2 r hr
    have hs := hP3.durSec (i := r) hr
    obtain ⟨p, c, ev, hcc, rb, hbk⟩ := ho.rb hs.2
    rw [hs.1] at ev rb hcc
    obtain ⟨bb, o, rfl, hcell⟩ := rb.pt (by omega)
    have h1 := (hbk _ rfl).1
    have h2 := World.block_lt_of_cell? _ _ (hcell 0 (by omega))
    simp only at h1 h2
    exact ⟨bb, o, c, ev, hcc, rb.keep0 k3, by omega, by omega, by omega, by omega, by omega⟩
  have hV2 : ∀ i, i < 6 → Vok t2 (V i) := fun r hr => by
    have ho := o3 r hr
    have hs := hP3.durSec (i := r) hr
    obtain ⟨p, c, ev, hcc, rb, hbk⟩ := ho.rb hs.2
    rw [hs.1] at ev rb hcc
    obtain ⟨bb, o, rfl, _⟩ := rb.pt (by omega)
    have h1 := (hbk _ rfl).1
    simp only at h1
    rw [ev]
    refine ⟨?_, hcc⟩
    simp only [blkOf, ne_eq, Option.some.injEq]
    omega
  have HWv0 : Hid _ := hWv
  have HV0 : Hid _ := hV2
  have hzt2 : w.heap.size ≤ t2 := by have := k1.size; omega
  clear hWv hV2
  have HN0 : Hid _ := hNw
  have HP3 : Hid _ := hP3
  have hzt : w.heap.size ≤ t := by have := k1.size; omega
  clear hP hP3 hNw o2 o3 r2 r3 HI
  go_wp2
  go_loopg [7, 28] L (fun gk wv x wr => ∃ (k q t2 c2 : Nat) (V : Nat → Value) (N : Nat → List Nat) (dur : List Nat) (T : Nat → Option (List Nat)), k ≤ L ∧ gk = L - k ∧ x = .int .i64 k ∧ wv = .slice (some ⟨t2, 0, none⟩) 6 c2 ∧ 6 ≤ c2 ∧ w.heap.size ≤ t2 ∧ q ≤ k ∧ Kp (fun _ => False) w wr ∧ Hid (Pt wr b d m 6 q dur T) ∧ Hid (Nows wr b d m t 6 V N) ∧ Hid (∀ i, i < 6 → N i = nowOf dur T i) ∧ Hid (∀ i, i < 6 → Vok t2 (V i)) ∧ Hid (Wv wr b d m t t2 (secOf dur)))
  case atStart => exact ⟨0, 0, t2, 6, _, _, _, _, Nat.zero_le _, rfl, rfl, rfl, Nat.le_refl _, hzt2, Nat.le_refl _, kw3, HP3.out, HN0.out, fun _ _ => rfl, HV0.out, HWv0.out⟩
  case round =>
    obtain ⟨k, q, t2, c2, V, N, dur, T, hk, rfl, rfl, rfl, hc2, hzt2, hq, hK, hPt, hNo, hEq, hVt, hWt⟩ := hrel
    clear HP3 HN0 kw3 k1 k2 k3 HV0 HWv0
    by_cases hlt : (k : Int) < (L : Int)
    · have hg' := hg (by omega)
      subst hg'
      obtain ⟨op, ii, tn, nn, p, nb, cb, xs, pk, nk, ck, e0, e1, e2, e3, e4, e5, hrb⟩ := HD.out k (by omega)
      have f0 := hK.cellv e0 id
      have f1 := hK.cellv e1 id
      have f2 := hK.cellv e2 id
      have f3 := hK.cellv e3 id
      have f4 := hK.cellv e4 id
      have f5 := hK.cellv e5 id
      have HM : Hid (_ = _) := m6_eq ii
      have hm6 := m6_lt ii
      clear e0 e1 e2 e3 e4 e5
      have hmk : ∀ w : World, (Instr.makeSlice 32 (.int .i64 64) (.int .i64 64)).run Try.prog w = .ok (.slice (some ⟨w.heap.size, 0, none⟩) 64 64) (w.alloc (.cells (madeCells #[.int .u8 0] 64) 5)) := fun w => run_make_row' (P := Try.prog) 32 5 (.int .u8 0) 1 Try.underlying32 info5 rfl .i64 .i64 64 (by omega) (by omega) w
      obtain ⟨w4, hw4⟩ : ∃ x, x = wr.alloc (.cells #[.int .i64 op, .int .i64 ii, .int .i64 tn, .int .i64 nn, .slice p nb cb, .slice pk nk ck] 35) := ⟨_, rfl⟩
      obtain ⟨w5, hw5⟩ : ∃ x, x = w4.alloc (.cells (madeCells #[.int .u8 0] 64) 5) := ⟨_, rfl⟩
      have k4 : Kp (fun _ => False) wr w4 := by rw [hw4]; exact (Kp.refl _ _).alloc _
      have k5 : Kp (fun _ => False) w4 w5 := by rw [hw5]; exact (Kp.refl _ _).alloc _
      have z4 : w4.heap.size = wr.heap.size + 1 := by rw [hw4]; simp
      have r5 : w5.rowIs w4.heap.size 5 64 (fun _ => .int .u8 0) := by rw [hw5]; exact World.rowIs_made w4 (.int .u8 0) 64 5
      have k45 := k4.trans k5 (fun _ _ e => e)
      have kw5 := hK.trans k45 (fun _ _ e => e)
      have HRb : Hid (Rb w5 p nb xs) := hrb.keep0 kw5
      have HP5 : Hid (Pt w5 b d m 6 q dur T) := hPt.out.keep k45 id id id
      have HN5 : Hid (Nows w5 b d m t 6 V N) := hNo.out.keep k45 (fun _ e => e.elim)
      have HBy : Hid (∀ x ∈ xs, x < 256) := hrb.byte
      have hk5 : w.heap.size ≤ wr.heap.size := hK.size
      clear hrb
      have g0 : w4.cell? ⟨wr.heap.size, 0, none⟩ = some (.int .i64 op) := by rw [hw4]; go_simp
      have g4 : w5.cell? ⟨wr.heap.size, 4, none⟩ = some (.slice p nb cb) := k5.cellv (by rw [hw4]; go_simp) id
      have g5 := k5.cellv g0 id
      have hbl := hPt.out.lt
      have hdl := hPt.out.row.lt
      have hml := hPt.out.mp.lt
      have htl := hNo.out.top.lt
      have ht2l : t2 < wr.heap.size := by obtain ⟨_, _, _, x, _⟩ := hWt.out.top; exact x.lt
      rw [z4] at r5
      go_wp2_with (refine wpList_copy_64 rfl _ _ rfl (wr.heap.size + 1) p nb cb rfl rfl (by rw [← hw4, ← hw5]; exact r5) xs (by rw [← hw4, ← hw5]; exact HRb.out) ?_; intro w6 k6 rb6; rw [← hw4, ← hw5] at k6)
      have kk6 : Kp (fun _ => False) wr w6 := k45.trans k6 (fun b hb e => by omega)
      have hP6 := hPt.out.keep kk6 id id id
      have hN6 := hNo.out.keep kk6 (fun _ e => e.elim)
      have q0 := k6.cellv g5 (by show wr.heap.size ≠ wr.heap.size + 1; omega)
      have HPq : Hid (Pt w6 b d m 6 q dur T) := hP6
      rw [HM.out]
      obtain ⟨i, hi⟩ : ∃ i, i = m6 ii := ⟨_, rfl⟩
      rw [← hi] at hm6 ⊢
      have HW : Hid (Calls _ _ _ w6 _) := write_ok hP6 (by omega) i hm6 (wr.heap.size + 1) 0 64 (cp64 xs) rb6
      clear f0 f1 f2 f3 f4 f5 hw4 hw5 hmk r5 g0 g4 g5 k4 k5 hP6 HP5 HN5 HRb HM hi
      refine HW.out.mono ?_
      rintro e w7 ⟨rfl, k7, hP7⟩
      have hN7 := hN6.keep k7 (fun _ e => Or.inr (Or.inr e))
      have rb7 := rb6.keep k7 (fun a ha _ e => by cases ha; simp only at e; omega)
      have q1 := k7.cellv q0 (by show wr.heap.size ≠ m; omega)
      have tt1 := hN7.top.cell (i := i) (by omega)
      have tt2 := hN7.top.frozen i
      obtain ⟨w8, hw8⟩ : ∃ x, x = w7.setCell ⟨t, i, none⟩ (.slice (some ⟨wr.heap.size + 1, 0, none⟩) 64 64) := ⟨_, rfl⟩
      have k8 : Kp (fun x => x = t) w7 w8 := by rw [hw8]; exact (Kp.refl (fun x => x = t) w7).setCell (a := ⟨t, i, none⟩) (fun _ => rfl) _
      have hN8 := hN7.put (i := i) (g := wr.heap.size + 1) (c := 64) (by omega) rb7 (by omega) hw8
      have htb := hN7.tb
      have hP8 := hP7.keep k8 (fun e => htb.1 e.symm) (fun e => htb.2.1 e.symm) (fun e => htb.2.2 e.symm)
      have q2 := k8.cellv q1 (by show wr.heap.size ≠ t; omega)
      have q2u := q2
      rw [hw8] at q2u
      have kw7 : Kp (fun _ => False) w w7 := (hK.trans kk6 (fun _ _ e => e)).trans k7 (fun x hx e => by omega)
      have kw8 : Kp (fun _ => False) w w8 := kw7.trans k8 (fun x hx e => by omega)
      have HEq8 : Hid (∀ j, j < 6 → (if j = i then cp64 xs else N j) = nowOf dur (fun j => if j = i then some (cp64 xs) else T j) j) := fun j hj => by
        by_cases e : j = i
        · unfold nowOf; simp only [if_pos e, Option.getD_some]
        · rw [if_neg e, hEq.out j hj]; unfold nowOf; simp only [if_neg e]
      have HP8 : Hid _ := hP8
      have HN8 : Hid _ := hN8
      have HW8 : Hid (Wv w8 b d m t t2 (secOf dur)) := ((hWt.out.keep kk6 (fun _ e => e.elim)).keep k7 (fun _ e => Or.inr (Or.inr (Or.inl e)))).keep k8 (fun _ e => Or.inr (Or.inr (Or.inr e)))
      have HV8 : Hid (∀ j, j < 6 → Vok t2 (if j = i then .slice (some ⟨wr.heap.size + 1, 0, none⟩) 64 64 else V j)) := fun j hj => by
        by_cases e : j = i
        · rw [if_pos e]
          refine ⟨?_, Nat.le_refl _⟩
          simp only [blkOf, ne_eq, Option.some.injEq]
          omega
        · rw [if_neg e]; exact hVt.out j hj
      clear hVt hWt
      clear HW hP7 hN7 hN6 hN8 hP8 hPt hNo hEq HPq rb6 rb7 q0 q1
      by_cases hop : op.tmod 4 = 0
      · have d1 : (op.tmod 4 == 0) = true := by rw [hop]; rfl
        have HSy : Hid (Calls _ _ _ w8 _) := sync_ok HP8.out
        go_wp2_with fail
        rw [← hw8]
        clear hw8 q2u
        refine HSy.out.mono ?_
        rintro e w9 ⟨rfl, k9, hP9⟩
        have hN9 := HN8.out.keep k9 (fun _ e => Or.inr e)
        have kw9 : Kp (fun _ => False) w w9 := kw8.trans k9 (fun x hx e => by omega)
        have HTx : Hid (∀ c, Calls _ _ #[.slice _ _ c] w9 _) := fun c => texts_ok (w := w9) (p := some ⟨t, 0, none⟩) (n := 6) (c := c) (N := fun j => if j = i then cp64 xs else N j) (by omega) (fun r hr => ⟨t, 0, rfl, by
          obtain ⟨bb, o, c, x1, x2, _⟩ := hN9.row r hr
          exact ⟨some ⟨bb, o, none⟩, 64, c, by rw [Nat.zero_add, hN9.top.cell hr, x1], x2, by omega⟩⟩)
        have HL9 : Hid (∀ r, r < 6 → (if r = i then cp64 xs else N r).length = 64) := fun r hr => by obtain ⟨bb, o, c, x1, x2, _⟩ := hN9.row r hr; exact x2.len
        have hz9 := k9.size
        have hz8 := k8.size
        have hz7 := k7.size
        have hz6 := kk6.size
        have HEq9 : Hid (∀ j, j < 6 → (if j = i then cp64 xs else N j) = nowOf (durAll dur (fun j => if j = i then some (cp64 xs) else T j) 6) (fun _ => none) j) := fun j hj => by
          rw [nowOf_sync HP8.out hj]; exact HEq8.out j hj
        have HP9 : Hid _ := hP9
        have HN9 : Hid _ := hN9
        clear HSy hP9 hN9 HP8 HN8
        go_wp2_with fail
        refine (HTx.out _).mono ?_
        rintro e w10 ⟨v10, xs10, rfl, k10, g10⟩
        obtain ⟨t10, c10, rfl, hb10, hl10, hc10, wv10⟩ := Wv.of_gt (b := b) (d := d) (m := m) (t := t) g10 HL9.out (by omega) (by omega) (by omega) (by omega)
        have HW10 : Hid (Wv w10 b d m t t10 (secOf (durAll dur (fun j => if j = i then some (cp64 xs) else T j) 6))) := by
          obtain ⟨cp, V', x1, x2, x3⟩ := wv10.top
          refine ⟨⟨cp, V', x1, x2, fun r hr => ?_⟩, wv10.ne⟩
          have := x3 r hr
          rw [HEq9.out r hr] at this
          exact this
        have HV10 : Hid (∀ j, j < 6 → Vok t10 (if j = i then .slice (some ⟨wr.heap.size + 1, 0, none⟩) 64 64 else V j)) := fun j hj => by
          refine ⟨?_, (HV8.out j hj).2⟩
          obtain ⟨bb, o, c, x1, x2, x3, x4⟩ := HN9.out.row j hj
          obtain ⟨b', o', e', hcc⟩ := x2.cell 0 (by omega)
          cases e'
          have hlb := World.block_lt_of_cell? _ _ hcc
          simp only at hlb
          rw [show (if j = i then .slice (some ⟨wr.heap.size + 1, 0, none⟩) 64 64 else V j : Value) = _ from x1]
          simp only [blkOf, ne_eq, Option.some.injEq]
          omega
        clear g10 wv10
        have HP10 : Hid _ := HP9.out.keep k10 id id id
        have HN10 : Hid _ := HN9.out.keep k10 (fun _ e => e.elim)
        have kw10 := kw9.trans k10 (fun _ _ e => e)
        clear HTx HP9 HN9
        go_wp2
        go_roundg (L - (k + 1))
        case rel => exact ⟨k + 1, 0, t10, c10, _, _, _, _, by omega, rfl, by go_num, rfl, hc10, by have := kw9.size; omega, by omega, kw10, HP10.out, HN10.out, HEq9.out, HV10.out, HW10.out⟩
        case measure => omega
      · have d1 : (op.tmod 4 == 0) = false := beq_eq_false_iff_ne.2 hop
        go_wp2
        rw [← hw8]
        go_roundg (L - (k + 1))
        case rel => exact ⟨k + 1, q + 1, t2, c2, _, _, _, _, by omega, rfl, by go_num, rfl, hc2, hzt2, by omega, kw8, HP8.out, HN8.out, HEq8.out, HV8.out, HW8.out⟩
        case measure => omega
    · have hst : Wst2 w wr b d m q t t2 := ⟨hK, by omega, ⟨hb, hd, hm, hzt, hzt2⟩, V, N, dur, T, hPt.out, hNo.out, hEq.out, hVt.out, hWt.out⟩
      clear hPt hNo hEq hVt hWt
      go_wp2
      go_ret3
      exact ⟨b, d, m, q, t, t2, c2, rfl, hc2, hst⟩
end Go.Proofs.Ytfaaikblkakiaaa
