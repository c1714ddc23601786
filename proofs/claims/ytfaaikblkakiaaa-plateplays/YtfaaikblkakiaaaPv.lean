/- Copies of both plates. -/
import Derived.Test.YtfaaikblkakiaaaPj
import Derived.Deep.RegionHeldLaw
namespace Go.Proofs.Ytfaaikblkakiaaa
open Go.RowKit Go.Deep Go.Maps

set_option maxRecDepth 100000 in
set_option maxHeartbeats 800000 in
theorem copy_dn {w : World} {b n : Nat} (h : Dn w b n) :
    Calls Try.prog 12 #[.pointer (some ⟨b, 0, none⟩)] w fun e w' => ∃ b', e = .returned (.pointer (some ⟨b', 0, none⟩)) ∧ Kp (fun _ => False) w w' ∧ w.heap.size ≤ b' ∧ Dn w' b' n := by
  have H : Hid (Calls _ _ _ w _) := made_dead _ w h.dd
  obtain ⟨hn, c0, c1, c2, c3⟩ := h
  have H1 : Hid (∀ w, Calls _ _ _ w _) := clone_nil
  have H2 : Hid (∀ w, Calls _ _ _ w _) := mclone_nil
  go_enter Try.func12, Try.ntmps12
  go_wp2_with (go_at_call 35; refine H.out.mono ?_; rintro e w' ⟨rfl, rfl⟩)
  go_region_held3 (fun x => x.cell? ⟨b, 0, none⟩ = some (.int .i64 (n : Int)) ∧ x.cell? ⟨b, 1, none⟩ = some (.slice none 0 0) ∧ x.cell? ⟨b, 2, none⟩ = some (.map none) ∧ x.cell? ⟨b, 3, none⟩ = some (.bool true)) (go_keep)
    (first
      | (go_at_call 36; refine (H1.out _).mono ?_; rintro e w1 ⟨rfl, hw⟩; obtain rfl := hw.symm)
      | (go_at_call 37; refine (H2.out _).mono ?_; rintro e w2 ⟨rfl, hw⟩; obtain rfl := hw.symm))
  go_wp2
  go_ret
  obtain ⟨w3, hw3⟩ : ∃ x, x = (w'.alloc (.cells #[.int .i64 (n : Int), .slice none 0 0, .map none, .bool true] 64)).drew := ⟨_, rfl⟩
  have d0 : w3.cell? ⟨w'.heap.size, 0, none⟩ = some (.int .i64 (n : Int)) := by rw [hw3]; go_simp
  have d1 : w3.cell? ⟨w'.heap.size, 1, none⟩ = some (.slice none 0 0) := by rw [hw3]; go_simp
  have d2 : w3.cell? ⟨w'.heap.size, 2, none⟩ = some (.map none) := by rw [hw3]; go_simp
  have d3 : w3.cell? ⟨w'.heap.size, 3, none⟩ = some (.bool true) := by rw [hw3]; go_simp
  refine ⟨_, rfl, ((Kp.refl _ _).alloc _).drew, Nat.le_refl _, ?_⟩
  rw [← hw3]
  exact ⟨hn, d0, d1, d2, d3⟩

theorem bools_none {w : World} (p : Option Addr) (c : Nat) : Src Try.prog 1 72 (.slice p 0 c) 0 [] w := by
  cases p with
  | none => exact Src.ofNil w Try.underlying72 c
  | some a => exact Src.ofSlice w Try.underlying72 a 0 c [] rfl (fun j u hj => by simp at hj) (fun u hu => by cases hu)

set_option maxRecDepth 100000 in
set_option maxHeartbeats 1600000 in
theorem refCopy_dead {w : World} {x n : Nat} {Y Y' : Nat → Prop} (h : Rdead w x n Y) (hn1 : 1 ≤ n) (hn2 : (n : Int) ≤ 8192) (hY : ∀ z, Y' z → z < w.heap.size) :
    Calls Try.prog 13 #[.pointer (some ⟨x, 0, none⟩)] w fun e w' => ∃ x', e = .returned (.pointer (some ⟨x', 0, none⟩)) ∧ Kp (fun _ => False) w w' ∧ w.heap.size ≤ x' ∧ x' < w'.heap.size ∧ Rdead w' x' n Y' := by
  obtain ⟨t, cw, p2, cd, hc, hy, c0, c1, c2, c3, hW⟩ := h
  have HA1 : Hid (∀ w', Calls _ _ #[.slice none 0 0] w' _) := all_none
  have HA2 : Hid (∀ w', Kp (fun _ => False) w w' → ∀ c, Calls _ _ #[.slice (some ⟨t, 0, none⟩) _ c] w' _) := fun w' k c => all_ok (w := w') (p := some ⟨t, 0, none⟩) (n := n) (c := c) (N := fun _ => []) (by omega) (fun r hr => ⟨t, 0, rfl, by
    obtain ⟨pr, ck, e⟩ := hW r hr
    exact ⟨pr, 0, ck, by rw [Nat.zero_add]; exact k.cellv e id, Rb.nil _ _, by omega⟩⟩)
  have HTr : Hid (∀ u u' : World, Kp (fun _ => False) w u → Kp (fun _ => False) u u' → Kp (fun _ => False) w u') := fun u u' h1 h2 => h1.trans h2 (fun _ _ e => e)
  have HGt : Hid (∀ (u : World) (base : Nat) (v : Value) (xs : List Value), Gt u base v n xs (fun _ => []) → ∃ g c, v = .slice (some ⟨g, 0, none⟩) n c ∧ n ≤ c ∧ base ≤ g ∧ ∀ r, r < n → ∃ pr ck, u.cell? ⟨g, r, none⟩ = some (.slice pr 0 ck)) := fun u base v xs h => by
    rcases h.own.2 with ⟨_, e2⟩ | ⟨g, cap, cur, e, hg, hh, h1, h2, h3, h4⟩
    · omega
    · refine ⟨g, cap, e, h1, hg, fun r hr => ?_⟩
      obtain ⟨p, n', c, ev, rb, _⟩ := h.txt r hr
      have hn' : n' = 0 := rb.len.symm
      subst hn'
      refine ⟨p, c, ?_⟩
      have h5 : (cur.toList.take (n * 1))[r]? = xs[r]? := by rw [h4]
      rw [List.getElem?_take_of_lt (by omega), Array.getElem?_toList, ev] at h5
      simp [World.cell?, hh, h5]
  have HFm : Hid (∀ (u : World) (base : Nat) (v : Value), u.ownsRow base 4 1 v 0 [] → ∃ p c, v = .slice p 0 c) := fun u base v h => by
    rcases h.2 with ⟨e, _⟩ | ⟨g, cap, cur, e, _⟩
    · exact ⟨none, 0, e⟩
    · exact ⟨_, _, e⟩
  clear hW hy
  go_enter Try.func13, Try.ntmps13
  have HOw : Hid (∀ (v : Value) (w2 w3 : World), Kp (fun _ => False) w w2 → w2.ownsRow w.heap.size 4 1 v 0 [] → Kp (fun b => v.ownBlock = some b) w2 w3 → Kp (fun _ => False) w w3) := fun v w2 w3 h1 h2 h3 => h1.trans h3 (fun z hz e => by have := (ownBlock_lt h2 e).1; omega)
  have HE1 : Hid (∀ w2 : World, Kp (fun _ => False) (w.alloc (.cells #[] 4)).drew w2 → w2.ownsRow w.heap.size 4 1 (.slice (some ⟨w.heap.size, 0, none⟩) 0 0) 0 []) := fun w2 k2 => by
    have h0 : ((w.alloc (.cells #[] 4)).drew).ownsRow w.heap.size 4 1 (.slice (some ⟨w.heap.size, 0, none⟩) 0 0) 0 [] := empty_bools w
    exact ownsRow_keep h0 k2 (fun _ _ => id)
  have HEm : Hid (∀ u : World, Kp (fun _ => False) w u → (u.alloc (.cells #[] 4)).ownsRow w.heap.size 4 1 (.slice (some ⟨u.heap.size, 0, none⟩) 0 0) 0 []) := fun u k => ownsRow_base (empty_bools u) k.size
  have HK1 : Hid (∀ (u u' : World) (g : Nat), ((w.alloc (.cells #[] 4)).drew).heap.size ≤ g → (∀ r, r < n → ∃ pr ck, u.cell? ⟨g, r, none⟩ = some (.slice pr 0 ck)) → Kp (fun b => (Value.slice (some ⟨w.heap.size, 0, none⟩) 0 0).ownBlock = some b) u u' → ∀ r, r < n → ∃ pr ck, u'.cell? ⟨g, r, none⟩ = some (.slice pr 0 ck)) := fun u u' g hg h k r hr => by
    obtain ⟨pr, ck, e⟩ := h r hr
    have hs : ((w.alloc (.cells #[] 4)).drew).heap.size = w.heap.size + 1 := by simp [World.drew]
    exact ⟨pr, ck, k.cellv e (fun e' => by
      have h2 : w.heap.size = g := Option.some.inj (show some w.heap.size = some g from e')
      omega)⟩
  have HK2 : Hid (∀ (u u' : World) (g : Nat), (∀ r, r < n → ∃ pr ck, u.cell? ⟨g, r, none⟩ = some (.slice pr 0 ck)) → Kp (fun b => (Value.slice (some ⟨u.heap.size, 0, none⟩) 0 0).ownBlock = some b) (u.alloc (.cells #[] 4)) u' → ∀ r, r < n → ∃ pr ck, u'.cell? ⟨g, r, none⟩ = some (.slice pr 0 ck)) := fun u u' g h k r hr => by
    obtain ⟨pr, ck, e⟩ := h r hr
    have hl := World.block_lt_of_cell? u _ e
    exact ⟨pr, ck, k.cellv (((Kp.refl (fun _ => False) u).alloc _).cellv e id) (fun e' => by
      have h2 : u.heap.size = g := Option.some.inj (show some u.heap.size = some g from e')
      have h3 : g < u.heap.size := hl
      omega)⟩
  have HS : Hid (∀ z, Kp (fun _ => False) w z → (Kp (fun _ => False) w z ∧ z.cell? ⟨x, 0, none⟩ = some (.slice none 0 0) ∧ z.cell? ⟨x, 1, none⟩ = some (.slice (some ⟨t, 0, none⟩) n cw) ∧ z.cell? ⟨x, 2, none⟩ = some (.slice p2 0 cd) ∧ z.cell? ⟨x, 3, none⟩ = some (.bool true))) := fun z k => ⟨k, k.cellv c0 id, k.cellv c1 id, k.cellv c2 id, k.cellv c3 id⟩
  have kd : Kp (fun _ => False) w w.drew := (Kp.refl _ _).drew
  have kda : Kp (fun _ => False) w (w.alloc (.cells #[] 4)).drew := ((Kp.refl _ _).alloc _).drew
  have hzd : w.heap.size ≤ (w.alloc (.cells #[] 4)).drew.heap.size := kda.size
  go_wp2_with fail
  go_region_held_law (fun z => Kp (fun _ => False) w z ∧ z.cell? ⟨x, 0, none⟩ = some (.slice none 0 0) ∧ z.cell? ⟨x, 1, none⟩ = some (.slice (some ⟨t, 0, none⟩) n cw) ∧ z.cell? ⟨x, 2, none⟩ = some (.slice p2 0 cd) ∧ z.cell? ⟨x, 3, none⟩ = some (.bool true))
    (first
      | exact HS.out _ kd
      | exact HS.out _ kda
      | exact HS.out _ kw3
      | exact HS.out _ kw2
      | exact HS.out _ (kw3.alloc _)
      | exact HS.out _ (kw2.alloc _))
    (first
      | (have kx := kw2
         refine step_append_bools _ rfl (.tmp 13) (.tmp 17) rfl w.heap.size _ rfl ?_ _ 0 [] rfl (bools_none _ _) (by omega) ?_ ?_
         · first
           | exact HE1.out _ k2
           | exact HEm.out _ kw2
         · first
           | exact kw2.size
           | exact (kw2.alloc _).size
         intro v3 w3 o3 hk3 hat3
         have kw3 : Kp (fun _ => False) w w3 := by
           first
           | exact HOw.out _ _ _ kw2 (HE1.out _ k2) hk3
           | exact HOw.out _ _ _ (kw2.alloc _) (HEm.out _ kw2) hk3
         have r3 : ∀ r, r < n → ∃ pr ck, w3.cell? ⟨g2, r, none⟩ = some (.slice pr 0 ck) := by
           first
           | exact HK1.out _ _ _ hg2b r2 hk3
           | exact HK2.out _ _ _ r2 hk3
         obtain ⟨p3, c3', rfl⟩ := HFm.out _ _ _ o3
         clear hk3 hat3 o3)
      | (have ky := mB
         go_at_call 38
         refine (HA2.out _ ?_ _).mono ?_
         · first
           | exact kd
           | exact kda
         rintro e w2 ⟨v2, xs2, rfl, k2, gt2⟩
         have kw2 : Kp (fun _ => False) w w2 := by
           first
           | exact HTr.out _ _ kd k2
           | exact HTr.out _ _ kda k2
         obtain ⟨g2, c2', rfl, hc2, hg2b, r2⟩ := HGt.out _ _ _ _ gt2
         clear gt2)
      | (go_at_call 38
         refine (HA1.out _).mono ?_
         rintro e w1 ⟨rfl, hw⟩
         have mB := kd
         obtain rfl := hw.symm))
  all_goals
    have hg2 : w.heap.size ≤ g2 := by
      first
      | exact hg2b
      | exact Nat.le_trans hzd hg2b
    have hz3 := kw3.size
    have HR3 : Hid _ := r3
    clear hg2b r3 r2
    go_wp2
    go_ret
    obtain ⟨w4, hw4⟩ : ∃ z, z = w3.alloc (.cells #[.slice none 0 0, .slice (some ⟨g2, 0, none⟩) n c2', .slice p3 0 c3', .bool true] 74) := ⟨_, rfl⟩
    have d0 : w4.cell? ⟨w3.heap.size, 0, none⟩ = some (.slice none 0 0) := by rw [hw4]; go_simp
    have d1 : w4.cell? ⟨w3.heap.size, 1, none⟩ = some (.slice (some ⟨g2, 0, none⟩) n c2') := by rw [hw4]; go_simp
    have d2 : w4.cell? ⟨w3.heap.size, 2, none⟩ = some (.slice p3 0 c3') := by rw [hw4]; go_simp
    have d3 : w4.cell? ⟨w3.heap.size, 3, none⟩ = some (.bool true) := by rw [hw4]; go_simp
    have k4 : Kp (fun _ => False) w3 w4 := by rw [hw4]; exact (Kp.refl _ _).alloc _
    have hz4 : w3.heap.size < w4.heap.size := by rw [hw4]; simp
    rw [← hw4]
    exact ⟨w3.heap.size, rfl, kw3.trans k4 (fun _ _ e => e), hz3, hz4, g2, c2', p3, c3', hc2, fun e => by have := hY _ e; omega, d0, d1, d2, d3, fun r hr => by
      obtain ⟨pr, ck, e⟩ := HR3.out r hr
      exact ⟨pr, ck, k4.cellv e id⟩⟩

theorem copy_pair {w : World} {b x n q : Nat} {F Y : Nat → Prop} (h : Pr w b x n q F Y) (Y' : Nat → Prop) (hY' : ∀ z, Y' z → z < w.heap.size) :
    Calls Try.prog 12 #[.pointer (some ⟨b, 0, none⟩)] w fun e w1 => ∃ b', e = .returned (.pointer (some ⟨b', 0, none⟩)) ∧ Kp (fun _ => False) w w1 ∧
      Calls Try.prog 13 #[.pointer (some ⟨x, 0, none⟩)] w1 fun e' w2 => ∃ x' F', e' = .returned (.pointer (some ⟨x', 0, none⟩)) ∧ Kp (fun _ => False) w1 w2 ∧ (∀ z, F' z → w.heap.size ≤ z) ∧ Pr w2 b' x' n q F' Y' := by
  obtain ⟨hF, Fb, Fx, hn, hh⟩ := h
  rcases hh with ⟨d, m, tb, tw, td, dur, T, hA, _⟩ | ⟨hD, hR⟩
  · refine (copy_ok hA.P).mono ?_
    rintro e w1 ⟨b', d', m', rfl, k1, hb, hd, hm, hP1⟩
    refine ⟨b', rfl, k1, ?_⟩
    have l1 := hP1.lt
    have l2 := hP1.row.lt
    have l3 := hP1.mp.lt
    have z1 := k1.size
    have hR1 := hA.R.keep k1 (fun z e => e.elim) id id id id
    refine (refCopy_ok (Y' := fun z => z = b' ∨ z = d' ∨ z = m' ∨ Y' z) hR1 (fun z e => by
      rcases e with e | e | e | e
      · omega
      · omega
      · omega
      · have := hY' z e; omega)).mono ?_
    rintro e w2 ⟨x', tb', tw', td', rfl, k2, hx, htb, htw, htd, hR2⟩
    have l4 := hR2.lt
    have z2 := k2.size
    refine ⟨x', fun z => z = b' ∨ z = d' ∨ z = m' ∨ z = x' ∨ z = tb' ∨ z = tw' ∨ z = td', rfl, k2, fun z e => by rcases e with e | e | e | e | e | e | e <;> omega, fun z e => by
      rcases e with e | e | e | e | e | e | e
      · omega
      · omega
      · omega
      · rw [e]; exact l4.1
      · rw [e]; exact l4.2.1
      · rw [e]; exact l4.2.2.1
      · rw [e]; exact l4.2.2.2, Or.inl rfl, Or.inr (Or.inr (Or.inr (Or.inl rfl))), hn, Or.inl ⟨d', m', tb', tw', td', dur, T, ⟨hP1.keep k2 id id id, hR2, fun z e => by rcases e with e | e | e <;> omega⟩, Or.inr (Or.inl rfl), Or.inr (Or.inr (Or.inl rfl)), Or.inr (Or.inr (Or.inr (Or.inr (Or.inl rfl)))), Or.inr (Or.inr (Or.inr (Or.inr (Or.inr (Or.inl rfl))))), Or.inr (Or.inr (Or.inr (Or.inr (Or.inr (Or.inr rfl)))))⟩⟩
  · refine (copy_dn hD).mono ?_
    rintro e w1 ⟨b', rfl, k1, hb, hD1⟩
    refine ⟨b', rfl, k1, ?_⟩
    have z1 := k1.size
    have l1 := hD1.lt
    refine (refCopy_dead (Y' := Y') (hR.keep k1 id (fun _ e => e.elim)) hn.1 (by have := hn.2; omega) (fun z e => Nat.lt_of_lt_of_le (hY' z e) z1)).mono ?_
    rintro e w2 ⟨x', rfl, k2, hx, hxl, hR2⟩
    have z2 := k2.size
    exact ⟨x', fun z => z = b' ∨ z = x', rfl, k2, fun z e => by rcases e with e | e <;> omega, fun z e => by rcases e with e | e <;> omega, Or.inl rfl, Or.inr rfl, hn, Or.inr ⟨hD1.keep k2 id, hR2⟩⟩
end Go.Proofs.Ytfaaikblkakiaaa
