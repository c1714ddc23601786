/- A plate and the reference's are the same. -/
import Derived.Test.YtfaaikblkakiaaaPj
import Derived.Deep.RegionHeld3
namespace Go.Proofs.Ytfaaikblkakiaaa
open Go.RowKit Go.Deep Go.Maps

theorem dks_mks (T : Nat → Option (List Nat)) (n : Nat) : dks T n = mks (fun j => (T j).isSome) n := rfl

set_option maxRecDepth 100000 in
set_option maxHeartbeats 1600000 in
theorem samePlates_al {w : World} {b d m x tb tw td n q : Nat} {dur : List Nat} {T : Nat → Option (List Nat)} {Y : Nat → Prop} (h : Al w b d m x tb tw td n q dur T Y) :
    Calls Try.prog 15 #[.pointer (some ⟨b, 0, none⟩), .pointer (some ⟨x, 0, none⟩)] w fun e w' => e = .returned (.bool true) ∧ Kp (fun _ => False) w w' := by
  obtain ⟨cw, hcw, c1⟩ := h.R.c1
  have c3 := h.R.c3
  have hn1 : 1 ≤ n := h.R.n1
  have hn2 : (n : Int) ≤ 8192 := by have := h.R.n2; omega
  have H1 : Hid (∀ w', Kp (fun _ => False) w w' → Calls _ _ _ w' _) := fun w' k => sectors_ok (h.P.keep k id id id)
  have H2 : Hid (∀ w', Kp (fun _ => False) w w' → Calls _ _ _ w' _) := fun w' k => failed_ok (h.P.keep k id id id)
  have H3 : Hid (∀ w', Kp (fun _ => False) w w' → Calls _ _ _ w' _) := fun w' k => dirty_ok (h.P.keep k id id id)
  have H4 : Hid (∀ w', Kp (fun _ => False) w w' → Calls _ _ _ w' _) := fun w' k => refDirty_ok (h.R.keep k (fun _ e => e.elim) id id id id)
  have H5 : Hid (∀ w', Kp (fun _ => False) w w' → Calls _ _ _ w' _) := fun w' k => image_ok (h.P.keep k id id id)
  have H6 : Hid (∀ w', Kp (fun _ => False) w w' → Calls _ _ _ w' _) := fun w' k => refImage_ok (h.R.keep k (fun _ e => e.elim) id id id id)
  obtain ⟨zs, hzs⟩ : ∃ zs, zs = dks T n := ⟨_, rfl⟩
  have hzm : mks (fun j => (T j).isSome) n = zs := by rw [hzs]; rfl
  rw [← hzs] at H3
  rw [hzm] at H4
  have HZL : Hid ((zs.length : Int) ≤ 1000000) := by rw [hzs]; have := dks_len T n; show _ ≤ _; omega
  have HBy : Hid (∀ x ∈ dur, x < 256) := h.P.byte
  have HLn : Hid (∀ r, r < n → (secOf dur r).length = 64) := fun r hr => secOf_len h.P.len hr
  have HTr : Hid (∀ u u' : World, Kp (fun _ => False) w u → Kp (fun _ => False) u u' → Kp (fun _ => False) w u') := fun u u' h1 h2 => h1.trans h2 (fun _ _ e => e)
  have HS : Hid (∀ z, Kp (fun _ => False) w z → (Kp (fun _ => False) w z ∧ z.cell? ⟨x, 1, none⟩ = some (.slice (some ⟨tw, 0, none⟩) n cw) ∧ z.cell? ⟨x, 3, none⟩ = some (.bool false))) := fun z k => ⟨k, k.cellv c1 id, k.cellv c3 id⟩
  have HIs : Hid (∀ (u : World) (base : Nat) (v : Value), Is u base v zs → ∃ p c, v = .slice p zs.length c ∧ Rz u p zs) := fun u base v h => by obtain ⟨p, c, e, r, _⟩ := h.rz; exact ⟨p, c, e, r⟩
  have HEq : Hid (∀ (u u' : World) (p1 p2 : Option Addr) (c1 c2 : Nat), Rz u p1 zs → Kp (fun _ => False) u u' → Rz u' p2 zs → Calls Try.prog 44 #[.slice p1 zs.length c1, .slice p2 zs.length c2] u' fun e w' => e = .returned (.bool true) ∧ Kp (fun _ => False) u' w') := fun u u' p1 p2 c1 c2 r1 k r2 => equal_ints p1 p2 c1 c2 zs u' (r1.keep k (fun _ _ => id)) r2 HZL.out
  have HSt : Hid (∀ (u u' : World) (t : Nat) (V : Nat → Value) (v : Value) (xs : List Value), u.rowIs t 32 n V → (∀ r, r < n → Ow u (t + 1) (V r) ((dur.drop (r * 64)).take 64)) → Kp (fun _ => False) u u' → Gt u' u.heap.size v n xs (secOf dur) → ∃ t2 c2, v = .slice (some ⟨t2, 0, none⟩) n c2 ∧ Calls Try.prog 19 #[.slice (some ⟨t, 0, none⟩) n n, .slice (some ⟨t2, 0, none⟩) n c2] u' fun e w' => e = .returned (.bool true) ∧ w' = u') := fun u u' t V v xs r1 o1 k g => by
    obtain ⟨t2, c2, e, _, _, _, hT⟩ := Tr.of_gt (X := fun _ => False) g hn1 HLn.out
    exact ⟨t2, c2, e, sameTexts_ok t t2 n n c2 (secOf dur) u' (rt_image HBy.out (k.row r1 id) (fun r hr => ownsRow_keep (o1 r hr) k (fun _ _ => id))) (hT (fun _ _ _ e => e.elim)).rt (by omega)⟩
  have kd : Kp (fun _ => False) w w.drew := (Kp.refl _ _).drew
  have hq : ((n : Int) == (n : Int)) = true := beq_self_eq_true _
  clear h hzs hzm
  go_enter Try.func15, Try.ntmps15
  go_wp2_with fail
  go_region_held3 (fun z => Kp (fun _ => False) w z ∧ z.cell? ⟨x, 1, none⟩ = some (.slice (some ⟨tw, 0, none⟩) n cw) ∧ z.cell? ⟨x, 3, none⟩ = some (.bool false))
    (first
      | exact HS.out _ kd
      | exact HS.out _ kw3
      | exact HS.out _ kw4
      | exact HS.out _ kw5
      | exact HS.out _ kw6
      | exact HS.out _ kw7)
    (first
      | (go_at_call 20; refine (H1.out _ kd).mono ?_; rintro e w1 ⟨rfl, hw⟩; obtain rfl := hw.symm)
      | (go_at_call 27; refine (H2.out _ kd).mono ?_; rintro e w2 ⟨rfl, hw⟩; obtain rfl := hw.symm)
      | (go_at_call 22; refine (H3.out _ kd).mono ?_; rintro e w3 ⟨v3, rfl, k3, i3⟩; have kw3 := HTr.out _ _ kd k3; obtain ⟨p3, c3', rfl, r3⟩ := HIs.out _ _ _ i3)
      | (go_at_call 45; refine (H4.out _ kw3).mono ?_; rintro e w4 ⟨v4, rfl, k4, i4⟩; have kw4 := HTr.out _ _ kw3 k4; obtain ⟨p4, c4', rfl, r4⟩ := HIs.out _ _ _ i4)
      | (go_at_call 44; refine (HEq.out _ _ _ _ _ _ r3 k4 r4).mono ?_; rintro e w5 ⟨rfl, k5⟩; have kw5 := HTr.out _ _ kw4 k5)
      | (go_at_call 25; refine (H5.out _ kw5).mono ?_; rintro e w6 ⟨t6, V6, rfl, k6, z6, r6, o6⟩; have kw6 := HTr.out _ _ kw5 k6)
      | (go_at_call 46; refine (H6.out _ kw6).mono ?_; rintro e w7 ⟨v7, xs7, rfl, k7, g7⟩; have kw7 := HTr.out _ _ kw6 k7; obtain ⟨t7, c7, rfl, hC7⟩ := HSt.out _ _ _ _ _ _ r6 o6 k7 g7; have HC7 : Hid (Calls _ _ _ _ _) := hC7; clear hC7)
      | (go_at_call 19; refine HC7.out.mono ?_; rintro e w8 ⟨rfl, hw⟩; obtain rfl := hw.symm))
  all_goals
    go_wp2
    go_ret
    exact ⟨rfl, kw7⟩

set_option maxRecDepth 100000 in
set_option maxHeartbeats 400000 in
theorem equalFunc_nil (w : World) : Calls Try.prog 48 #[.slice none 0 0, .slice none 0 0, .func (.func 31) #[] #[]] w fun e w' => e = .returned (.bool true) ∧ w' = w := by
  go_enter Try.func48, Try.ntmps48
  go_wp2
  go_loopg [17] 0 (fun gk x wr => gk = 0 ∧ x = .int .i64 0 ∧ wr = w)
  case atStart => exact ⟨rfl, rfl, rfl⟩
  case round =>
    obtain ⟨rfl, rfl, rfl⟩ := hrel
    go_wp2
    go_ret
    exact ⟨rfl, rfl⟩
set_option maxRecDepth 100000 in
set_option maxHeartbeats 400000 in
theorem sameTexts_nil (w : World) : Calls Try.prog 19 #[.slice none 0 0, .slice none 0 0] w fun e w' => e = .returned (.bool true) ∧ w' = w := by
  have H : Hid (Calls _ _ _ w _) := equalFunc_nil w
  go_enter Try.func19, Try.ntmps19
  go_wp2_with (go_at_call 48; refine H.out.mono ?_; rintro e w' ⟨rfl, hw⟩; obtain rfl := hw.symm)
  go_ret
  exact ⟨rfl, rfl⟩

set_option maxRecDepth 100000 in
set_option maxHeartbeats 1600000 in
theorem samePlates_de {w : World} {b x n : Nat} {Y : Nat → Prop} (h : Dn w b n) (hR : Rdead w x n Y) :
    Calls Try.prog 15 #[.pointer (some ⟨b, 0, none⟩), .pointer (some ⟨x, 0, none⟩)] w fun e w' => e = .returned (.bool true) ∧ Kp (fun _ => False) w w' := by
  have H1 : Hid (∀ w', Kp (fun _ => False) w w' → Calls _ _ _ w' _) := fun w' k => sectors_dn (h.keep k id)
  have H2 : Hid (∀ w', Kp (fun _ => False) w w' → Calls _ _ _ w' _) := fun w' k => failed_dead _ w' (h.keep k id).dd
  have H3 : Hid (∀ w', Kp (fun _ => False) w w' → Calls _ _ _ w' _) := fun w' k => dirty_dead _ w' (h.keep k id).dd
  have H4 : Hid (∀ w', Kp (fun _ => False) w w' → Calls _ _ _ w' _) := fun w' k => refDirty_dead (hR.keep k id (fun _ e => e.elim))
  have H5 : Hid (∀ w', Kp (fun _ => False) w w' → Calls _ _ _ w' _) := fun w' k => image_dead _ w' (h.keep k id).dd
  have H6 : Hid (∀ w', Kp (fun _ => False) w w' → Calls _ _ _ w' _) := fun w' k => refImage_dead (hR.keep k id (fun _ e => e.elim))
  have H7 : Hid (∀ w', Calls _ _ _ w' _) := fun w' => equal_ints none none 0 0 [] w' (fun j hj => absurd hj (Nat.not_lt_zero _)) (fun j hj => absurd hj (Nat.not_lt_zero _)) (by simp)
  have H8 : Hid (∀ w', Calls _ _ _ w' _) := sameTexts_nil
  obtain ⟨t, cw, p2, c2', hc, hy, c0, c1, c2, c3, hW⟩ := hR
  clear hy hW c0 c2
  have HTr : Hid (∀ u u' : World, Kp (fun _ => False) w u → Kp (fun _ => False) u u' → Kp (fun _ => False) w u') := fun u u' h1 h2 => h1.trans h2 (fun _ _ e => e)
  have HS : Hid (∀ z, Kp (fun _ => False) w z → (Kp (fun _ => False) w z ∧ z.cell? ⟨x, 1, none⟩ = some (.slice (some ⟨t, 0, none⟩) n cw) ∧ z.cell? ⟨x, 3, none⟩ = some (.bool true))) := fun z k => ⟨k, k.cellv c1 id, k.cellv c3 id⟩
  have kd : Kp (fun _ => False) w w.drew := (Kp.refl _ _).drew
  have hq : ((n : Int) == (n : Int)) = true := beq_self_eq_true _
  clear h
  go_enter Try.func15, Try.ntmps15
  go_wp2_with fail
  go_region_held3 (fun z => Kp (fun _ => False) w z ∧ z.cell? ⟨x, 1, none⟩ = some (.slice (some ⟨t, 0, none⟩) n cw) ∧ z.cell? ⟨x, 3, none⟩ = some (.bool true))
    (first
      | exact HS.out _ kd
      | exact HS.out _ kw5)
    (first
      | (go_at_call 20; refine (H1.out _ kd).mono ?_; rintro e w1 ⟨rfl, hw⟩; obtain rfl := hw.symm)
      | (go_at_call 27; refine (H2.out _ kd).mono ?_; rintro e w2 ⟨rfl, hw⟩; obtain rfl := hw.symm)
      | (go_at_call 22; refine (H3.out _ kd).mono ?_; rintro e w3 ⟨rfl, hw⟩; obtain rfl := hw.symm)
      | (go_at_call 45; refine (H4.out _ kd).mono ?_; rintro e w4 ⟨rfl, hw⟩; obtain rfl := hw.symm)
      | (go_at_call 44; refine (H7.out _).mono ?_; rintro e w5 ⟨rfl, k5⟩; have kw5 := HTr.out _ _ kd k5)
      | (go_at_call 25; refine (H5.out _ kw5).mono ?_; rintro e w6 ⟨rfl, hw⟩; obtain rfl := hw.symm)
      | (go_at_call 46; refine (H6.out _ kw5).mono ?_; rintro e w7 ⟨rfl, hw⟩; obtain rfl := hw.symm)
      | (go_at_call 19; refine (H8.out _).mono ?_; rintro e w8 ⟨rfl, hw⟩; obtain rfl := hw.symm))
  all_goals
    go_wp2
    go_ret
    exact ⟨rfl, kw5⟩

/-- the two are the same, whatever they went through -/
theorem same_pair {w : World} {b x n q : Nat} {F Y : Nat → Prop} (h : Pr w b x n q F Y) :
    Calls Try.prog 15 #[.pointer (some ⟨b, 0, none⟩), .pointer (some ⟨x, 0, none⟩)] w fun e w' => e = .returned (.bool true) ∧ Kp (fun _ => False) w w' := by
  obtain ⟨hF, Fb, Fx, hn, hh⟩ := h
  rcases hh with ⟨d, m, tb, tw, td, dur, T, hA, _⟩ | ⟨hD, hR⟩
  · exact samePlates_al hA
  · exact samePlates_de hD hR
end Go.Proofs.Ytfaaikblkakiaaa
