/- The walk of the law StripeApart: blobs of one length that part have shards that part. -/
import Derived.Test.YtokicnokinkpfaaDoorS2
import Derived.Test.YtokicnokinkpfaaDoorTx
import Derived.Test.YtokicnokinkpfaaDoorLtu
namespace Go.Proofs.YtokicnokinkpfaaDoor
open Go.RowKit Go.Deep

/-- the blob of the law: what came, cut, and a seven -/
def blob7 (f : Nat → Nat) (la : Nat) : Nat → Nat := fun j => if j = la then 7 else f j
theorem blob7_lt {f : Nat → Nat} (hf : ∀ j, f j < 256) (la j : Nat) : blob7 f la j < 256 := by
  unfold blob7; split
  · omega
  · exact hf j
theorem vals_snoc (f : Nat → Nat) (la : Nat) : vals (blob7 f la) (la + 1) = vals f la ++ [.int .u8 7] := by
  unfold vals
  rw [List.range_succ, List.map_append]
  congr 1
  · refine List.map_congr_left (fun j hj => ?_)
    have hj' := List.mem_range.1 hj
    simp only [By, blob7]
    rw [if_neg (by omega)]
  · simp [By, blob7]
/-- a copy of bytes that came in, which the call owns -/
theorem clone_bc (p : Option Addr) (ba oa n c : Nat) (f : Nat → Nat) (w : World) (hp : ∀ k, k < n → p = some ⟨ba, oa, none⟩) (hc : ∀ k, k < n → w.cell? ⟨ba, oa + k, none⟩ = some (.int .u8 ((f k : Nat) : Int))) (hn : Hid (n ≤ 140737488355328)) :
    Calls Tryd.prog 5 #[.slice p n c] w fun e w' => ∃ v, e = .returned v ∧ Kp (fun _ => False) w w' ∧ w'.ownsRow w.heap.size 5 1 v n (vals f n) := by
  cases p with
  | none =>
    have h0 : n = 0 := by
      rcases Nat.eq_zero_or_pos n with h | h
      · exact h
      · have := hp 0 h; simp at this
    subst h0
    refine (clone_none c w).mono ?_
    rintro e w' ⟨rfl, rfl⟩
    exact ⟨_, rfl, Kp.refl _ _, World.ownsRow_nil _ _ _ _⟩
  | some a =>
    refine clone_some a n c f w (fun k hk => ?_) hn
    obtain rfl := Option.some.inj (hp k hk)
    rw [addr_add]
    exact hc k hk
/-- a region that draws its order, over a class of worlds -/
theorem wp_region_quiet_lit_C {P : Program} {C : World → Prop} {id : Nat} {Q : Exit → Act → World → Prop} {a : Act} {w : World} {l : List Oper} (hm : P.follows .mixedOrders = true) (hB : Region.lexB .any l.toArray = true) (hC : C { w with drawn := w.drawn + 1 })
    (h : wpQuiet P l.toArray C (fun a' => ∀ w', C w' → Q .normal a' w') l a) : (Code.region id l.toArray true).wp P Q a w :=
  wp_region_quiet hm hB hC (by simpa using h)
/-- blobs that part at x have data that part -/
theorem apart_data {K la x v : Nat} {g : Nat → Nat} (hx : x < la) (hv : v ≠ g x) (hK : 1 ≤ K) (hg : ∀ i, g i < 256) (hvl : v < 256) :
    seatK K x < K ∧ seatAt K x < lenOf K la ∧ enc K (cutAt K g la) (seatK K x) (seatAt K x) ≠ enc K (cutAt K (fun j => if j = x then v else g j) la) (seatK K x) (seatAt K x) := by
  refine ⟨seatK_lt hK x, seatAt_lt hK hx, ?_⟩
  have hg' : ∀ i, (fun j => if j = x then v else g j) i < 256 := fun i => by
    dsimp only; split
    · exact hvl
    · exact hg i
  rw [enc_data (cutAt_lt hg K la) (seatK_lt hK x), enc_data (cutAt_lt hg' K la) (seatK_lt hK x), cutAt_seat K g hx, cutAt_seat K _ hx]
  simp only [if_true]
  exact fun e => hv e.symm

set_option maxRecDepth 100000 in
set_option maxHeartbeats 3200000 in
theorem apart_small (k m : Int) (p0 : Option Addr) (la ca : Nat) (f : Nat → Nat) (x y : Int) (w : World) (ba oa : Nat) (hpa : ∀ k, k < la → p0 = some ⟨ba, oa, none⟩) (hcb : ∀ k, k < la → w.cell? ⟨ba, oa + k, none⟩ = some (.int .u8 ((f k : Nat) : Int))) (hf : ∀ k, f k < 256)
    (hla : (la : Int) ≤ 399) (hca : ((la : Nat) : Int) ≤ (ca : Int)) (hp : Pows w) :
    Calls Tryd.prog 3 #[.int .i64 k, .int .i64 m, .slice p0 la ca, .int .i64 x, .int .i64 y] w fun e w' => e = .returned (.bool true) ∧ Kp (fun _ => False) w w' := by
  obtain ⟨K, M, ⟨b1, b2, b3⟩, hcode⟩ := codeX k m
  have HC : Hid (∀ w, Calls _ _ _ w _) := hcode
  obtain ⟨ti, hi0, hz0, hz1, hz2⟩ := info_parts info5
  clear hcode
  go_enter Tryd.func3, Tryd.ntmps3
  go_wp2_with fail
  refine (HC.out _).mono ?_
  rintro e w1 ⟨rfl, k1⟩
  obtain ⟨wa, hwa, ka, za, q1, q2⟩ := code_alloc w1 K M
  have k1a := k1.trans ka (fun _ _ e => e)
  have HX : Hid (∀ c, Calls _ _ #[.slice _ _ c] wa _) := fun c => clone_bc p0 ba oa (la) c f wa hpa (fun k hk => k1a.cellv (hcb k hk) id) (show la ≤ 140737488355328 by omega)
  clear HC hpa hcb
  go_wp2_with fail
  rw [← hwa]
  clear hwa
  refine (HX.out _).mono ?_
  rintro e w2 ⟨v, rfl, k2, hO⟩
  clear HX
  have hz2' := k2.size
  go_wp2_with (at_builtin; go_must (refine wpList_append_own_at _ rfl _ _ 22 rfl wa.heap.size 5 ti (.int .u8 0) 1 1 Tryd.underlying22 hi0 hz0 hz1 hz2 rfl (by decide) _ _ _ rfl (hO.alloc _) ⟨w2.heap.size, 0, none⟩ 1 1 [.int .u8 7] rfl rfl (cell_one_new _ _ _) (fun x hx => by simp at hx; subst hx; rfl) (by unfold maxLen; omega) (by omega) (by simp; omega) ?_); intro v' w3 hown' hgrow3 hnil3 hblk3)
  have hown2 : w3.ownsRow wa.heap.size 5 1 v' (la + 1) (vals (blob7 f la) (la + 1)) := by
    rw [← vals_snoc] at hown'
    exact hown'
  obtain ⟨p1, c1, g1, rfl, hv1⟩ := own_row hown2
  obtain ⟨rfl, hg1, hc1, hR1⟩ := hv1 (by omega)
  have k13 : Kp (fun _ => False) wa w3 := Kp.trans (k2.alloc _) (grownBy_kp hgrow3) (fun b hb e => by have := ownBlock_lt hO e; omega)
  have kw3 := k1a.trans k13 (fun _ _ e => e)
  have HF : Hid (∀ k, f k < 256) := hf
  clear hO hown' hown2 hgrow3 hnil3 hblk3 hv1 hf
  have HY : Hid (∀ c, Calls _ _ #[.slice _ _ c] w3 _) := fun c => clone_some ⟨g1, 0, none⟩ (la + 1) c (blob7 f la) w3 (fun k hk => by rw [addr_add, Nat.zero_add]; exact hR1.cell hk) (show la + 1 ≤ 140737488355328 by omega)
  go_wp2_with fail
  refine (HY.out _).mono ?_
  rintro e w4 ⟨v4, rfl, k4, hO4⟩
  clear HY
  obtain ⟨p2, c2, g2, rfl, hv2⟩ := own_row hO4
  obtain ⟨rfl, hg2, hc2, hR2⟩ := hv2 (by omega)
  clear hv2 hO4
  have hl1 : (1 : Nat) ≤ la + 1 := by omega
  have hxx := modOf_eq x hl1 (by omega)
  have hyy := byOf_eq y
  obtain ⟨v1, v2⟩ := byOf_bd y
  have x2 := modOf_lt x hl1
  generalize modOf x (la + 1) = I at *
  generalize byOf y = V at *
  rw [show ((la + 1 : Nat) : Int) = (la : Int) + 1 from by simp] at hxx
  have e1 := hR2.cell x2
  have e2 := hR2.frozen I
  have hx := u8_xor_cast (blob7 f la I) V (by have := blob7_lt HF.out la I; omega) (by omega)
  obtain ⟨w5, hw5⟩ : ∃ y, y = w4.setCell ⟨g2, I, none⟩ (.int .u8 ((blob7 f la I ^^^ V : Nat) : Int)) := ⟨_, rfl⟩
  have hg1l := hR1.lt
  have k45 : Kp (fun b => b = g2) w4 w5 := by rw [hw5]; exact (Kp.refl (fun b => b = g2) w4).setCell (a := ⟨g2, I, none⟩) (fun _ => rfl) _
  have hR5 : RowB w5 g2 c2 (la + 1) (fun j => if j = I then blob7 f la I ^^^ V else blob7 f la j) := by rw [hw5]; exact hR2.set I _
  have hR5' : RowB w5 g1 c1 (la + 1) (blob7 f la) := (hR1.keep k4 id).keep k45 (by show g1 ≠ g2; omega)
  have hsz4 := k4.size
  have k35 : Kp (fun _ => False) w3 w5 := k4.trans k45 (fun b hb e => by omega)
  have kw5 := kw3.trans k35 (fun _ _ e => e)
  have k15 := k13.trans k35 (fun _ _ e => e)
  have s1 := k15.cellv q1 id
  have s2 := k15.cellv q2 id
  have HG : Hid (∀ i, blob7 f la i < 256) := blob7_lt HF.out la
  have s1u := s1
  have s2u := s2
  rw [hw5] at s1u s2u
  have HC1 : Hid (Calls _ _ _ w5 _) := cut_yes K M (la + 1) (.slice (some ⟨g1, 0, none⟩) (la + 1) c1) (blob7 f la) w5 ⟨_, g1, 0, c1, rfl, fun _ _ => rfl, fun j hj => by rw [Nat.zero_add]; exact hR5'.cell hj, HG.out⟩ (by omega) (by omega) (by omega) (kw5.pows hp id)
  go_wp2_with fail
  rw [← hw5]
  clear hw5 hx hxx hyy e1 e2 s1u s2u
  refine HC1.out.mono ?_
  rintro e w6 ⟨t1, B1, rfl, k6, _, _, hM1⟩
  clear HC1
  have u1 := k6.cellv s1 id
  have u2 := k6.cellv s2 id
  have kw6 := kw5.trans k6 (fun _ _ e => e)
  have hvne : blob7 f la I ^^^ V ≠ blob7 f la I := fun e => by have := xor_eq_self e; omega
  have HG2 : Hid (∀ i, (fun j => if j = I then blob7 f la I ^^^ V else blob7 f la j) i < 256) := fun i => by
    dsimp only; split
    · exact xor8 (HG.out I) v2
    · exact HG.out i
  have HAp : Hid (_ ∧ _ ∧ _ ≠ _) := apart_data (la := la + 1) x2 hvne b1 HG.out (xor8 (HG.out I) v2)
  have HC2 : Hid (Calls _ _ _ w6 _) := cut_yes K M (la + 1) (.slice (some ⟨g2, 0, none⟩) (la + 1) c2) _ w6 ⟨_, g2, 0, c2, rfl, fun _ _ => rfl, fun j hj => by rw [Nat.zero_add]; exact (hR5.keep k6 id).cell hj, HG2.out⟩ (by omega) (by omega) (by omega) (kw6.pows hp id)
  clear hR1 hR2 hR5 hR5'
  go_wp2_with fail
  refine HC2.out.mono ?_
  rintro e w7 ⟨t2, B2, rfl, k7, _, _, hM2⟩
  clear HC2
  have y1 := k7.cellv u1 id
  have y2 := k7.cellv u2 id
  have kw7 := kw6.trans k7 (fun _ _ e => e)
  have hM17 := hM1.keep k7 id (fun _ _ => id)
  have HSm : Hid (∀ w', Kp (fun _ => False) w7 w' → Calls _ _ _ w' _) := fun w' k' => sameTexts_any (ofMat t1 B1 (K + M) _ _) (ofMat t2 B2 (K + M) _ _) w' (hM17.keep k' id (fun _ _ => id)).rd (hM2.keep k' id (fun _ _ => id)).rd (by show ((K + M : Nat) : Int) ≤ _; omega) false (fun h => by cases h) (fun _ hs => HAp.out.2.2 ((hs.2 _ (Nat.lt_of_lt_of_le HAp.out.1 (Nat.le_add_right K M))).2 _ HAp.out.2.1))
  have HLn : Hid (∀ w', Calls _ _ _ w' _) := fun w' => length_yes K M (la + 1) w' (by omega) (by omega) (by omega)
  have a0 := hM17.top.cell (i := 0) (by omega)
  obtain ⟨l1, l2⟩ := lenOf_bd (K := K) (size := la + 1) (by omega) (by omega)
  have hq1 : ((K : Int) + (M : Int) == (K : Int) + (M : Int)) = true := beq_self_eq_true _
  generalize lenOf K (la + 1) = N at *
  have hq2 : ((N : Int) == (N : Int)) = true := beq_self_eq_true _
  clear hM1 hM2 hM17 u1 u2 s1 s2 q1 q2
  obtain ⟨J, W, hne, hW, hJ⟩ : ∃ (J : Type) (W : J → World), Nonempty J ∧ Hid (∀ j, Kp (fun _ => False) w7 (W j)) ∧ Hid (∀ x, Kp (fun _ => False) w7 x → ∃ j, x = W j) :=
    ⟨{x // Kp (fun _ => False) w7 x}, Subtype.val, ⟨⟨w7, Kp.refl _ _⟩⟩, fun j => j.2, fun x h => ⟨⟨x, h⟩, rfl⟩⟩
  have z0 : ∀ j, (W j).cell? ⟨t1, 0, none⟩ = some (.slice (some ⟨B1 0, 0, none⟩) N N) := fun j => (hW.out j).cellv a0 id
  have z1 : ∀ j, (W j).cell? ⟨w1.heap.size, 0, none⟩ = some (.int .i64 (K : Int)) := fun j => (hW.out j).cellv y1 id
  have z2 : ∀ j, (W j).cell? ⟨w1.heap.size, 1, none⟩ = some (.int .i64 (M : Int)) := fun j => (hW.out j).cellv y2 id
  have hKM : 0 < K + M := by omega
  have hKMi : (0 : Int) < (K : Int) + (M : Int) := by omega
  clear a0 y1 y2
  go_wp2
  refine wp_region_quiet_lit_C (C := fun w' => ∃ j, w' = W j) (by kernel_rfl) (by kernel_rfl) (hJ.out _ (Kp.refl _ _).drew) ?_
  repeat (first
    | quiet_step (first
      | (go_at_call 7; exact (HSm.out _ (hW.out _)).mono (fun e w'' ⟨he, hw⟩ => ⟨he, _, hw⟩))
      | (go_at_call 8; exact (HLn.out _).mono (fun e w'' ⟨he, hk⟩ => ⟨he, hJ.out _ ((hW.out _).trans hk (fun _ _ e => e))⟩))))
  refine wpQuiet_nil ?_
  rintro w' ⟨j, rfl⟩
  have kj := kw7.trans (hW.out j) (fun _ _ e => e)
  clear hW hJ z0 z1 z2 HSm HLn
  go_wp2
  go_ret
  exact ⟨rfl, kj⟩

set_option maxRecDepth 100000 in
set_option maxHeartbeats 3200000 in
theorem apart_great (k m : Int) (p0 : Option Addr) (lx ca : Nat) (f : Nat → Nat) (x y : Int) (w : World) (ba oa : Nat) (hpa : ∀ k, k < 399 → p0 = some ⟨ba, oa, none⟩) (hcb : ∀ k, k < 399 → w.cell? ⟨ba, oa + k, none⟩ = some (.int .u8 ((f k : Nat) : Int))) (hf : ∀ k, f k < 256)
    (hla : 399 < (lx : Int)) (hca : ((lx : Nat) : Int) ≤ (ca : Int)) (hp : Pows w) :
    Calls Tryd.prog 3 #[.int .i64 k, .int .i64 m, .slice p0 lx ca, .int .i64 x, .int .i64 y] w fun e w' => e = .returned (.bool true) ∧ Kp (fun _ => False) w w' := by
  obtain ⟨K, M, ⟨b1, b2, b3⟩, hcode⟩ := codeX k m
  have HC : Hid (∀ w, Calls _ _ _ w _) := hcode
  obtain ⟨ti, hi0, hz0, hz1, hz2⟩ := info_parts info5
  clear hcode
  go_enter Tryd.func3, Tryd.ntmps3
  go_wp2_with fail
  refine (HC.out _).mono ?_
  rintro e w1 ⟨rfl, k1⟩
  obtain ⟨wa, hwa, ka, za, q1, q2⟩ := code_alloc w1 K M
  have k1a := k1.trans ka (fun _ _ e => e)
  have HX : Hid (∀ c, Calls _ _ #[.slice _ _ c] wa _) := fun c => clone_bc p0 ba oa (399) c f wa hpa (fun k hk => k1a.cellv (hcb k hk) id) (show 399 ≤ 140737488355328 by omega)
  clear HC hpa hcb
  go_wp2_with fail
  rw [← hwa]
  clear hwa
  refine (HX.out _).mono ?_
  rintro e w2 ⟨v, rfl, k2, hO⟩
  clear HX
  have hz2' := k2.size
  go_wp2_with (at_builtin; go_must (refine wpList_append_own_at _ rfl _ _ 22 rfl wa.heap.size 5 ti (.int .u8 0) 1 1 Tryd.underlying22 hi0 hz0 hz1 hz2 rfl (by decide) _ _ _ rfl (hO.alloc _) ⟨w2.heap.size, 0, none⟩ 1 1 [.int .u8 7] rfl rfl (cell_one_new _ _ _) (fun x hx => by simp at hx; subst hx; rfl) (by unfold maxLen; omega) (by omega) (by simp; omega) ?_); intro v' w3 hown' hgrow3 hnil3 hblk3)
  have hown2 : w3.ownsRow wa.heap.size 5 1 v' (400) (vals (blob7 f 399) (400)) := by
    rw [← vals_snoc] at hown'
    exact hown'
  obtain ⟨p1, c1, g1, rfl, hv1⟩ := own_row hown2
  obtain ⟨rfl, hg1, hc1, hR1⟩ := hv1 (by omega)
  have k13 : Kp (fun _ => False) wa w3 := Kp.trans (k2.alloc _) (grownBy_kp hgrow3) (fun b hb e => by have := ownBlock_lt hO e; omega)
  have kw3 := k1a.trans k13 (fun _ _ e => e)
  have HF : Hid (∀ k, f k < 256) := hf
  clear hO hown' hown2 hgrow3 hnil3 hblk3 hv1 hf
  have HY : Hid (∀ c, Calls _ _ #[.slice _ _ c] w3 _) := fun c => clone_some ⟨g1, 0, none⟩ (400) c (blob7 f 399) w3 (fun k hk => by rw [addr_add, Nat.zero_add]; exact hR1.cell hk) (show 400 ≤ 140737488355328 by omega)
  go_wp2_with fail
  refine (HY.out _).mono ?_
  rintro e w4 ⟨v4, rfl, k4, hO4⟩
  clear HY
  obtain ⟨p2, c2, g2, rfl, hv2⟩ := own_row hO4
  obtain ⟨rfl, hg2, hc2, hR2⟩ := hv2 (by omega)
  clear hv2 hO4
  have hl1 : (1 : Nat) ≤ 400 := by omega
  have hxx := modOf_eq x hl1 (by omega)
  have hyy := byOf_eq y
  obtain ⟨v1, v2⟩ := byOf_bd y
  have x2 := modOf_lt x hl1
  generalize modOf x (400) = I at *
  generalize byOf y = V at *
  rw [show ((400 : Nat) : Int) = 400 from by simp] at hxx
  have e1 := hR2.cell x2
  have e2 := hR2.frozen I
  have hx := u8_xor_cast (blob7 f 399 I) V (by have := blob7_lt HF.out 399 I; omega) (by omega)
  obtain ⟨w5, hw5⟩ : ∃ y, y = w4.setCell ⟨g2, I, none⟩ (.int .u8 ((blob7 f 399 I ^^^ V : Nat) : Int)) := ⟨_, rfl⟩
  have hg1l := hR1.lt
  have k45 : Kp (fun b => b = g2) w4 w5 := by rw [hw5]; exact (Kp.refl (fun b => b = g2) w4).setCell (a := ⟨g2, I, none⟩) (fun _ => rfl) _
  have hR5 : RowB w5 g2 c2 (400) (fun j => if j = I then blob7 f 399 I ^^^ V else blob7 f 399 j) := by rw [hw5]; exact hR2.set I _
  have hR5' : RowB w5 g1 c1 (400) (blob7 f 399) := (hR1.keep k4 id).keep k45 (by show g1 ≠ g2; omega)
  have hsz4 := k4.size
  have k35 : Kp (fun _ => False) w3 w5 := k4.trans k45 (fun b hb e => by omega)
  have kw5 := kw3.trans k35 (fun _ _ e => e)
  have k15 := k13.trans k35 (fun _ _ e => e)
  have s1 := k15.cellv q1 id
  have s2 := k15.cellv q2 id
  have HG : Hid (∀ i, blob7 f 399 i < 256) := blob7_lt HF.out 399
  have s1u := s1
  have s2u := s2
  rw [hw5] at s1u s2u
  have HC1 : Hid (Calls _ _ _ w5 _) := cut_yes K M (400) (.slice (some ⟨g1, 0, none⟩) (400) c1) (blob7 f 399) w5 ⟨_, g1, 0, c1, rfl, fun _ _ => rfl, fun j hj => by rw [Nat.zero_add]; exact hR5'.cell hj, HG.out⟩ (by omega) (by omega) (by omega) (kw5.pows hp id)
  go_wp2_with fail
  rw [← hw5]
  clear hw5 hx hxx hyy e1 e2 s1u s2u
  refine HC1.out.mono ?_
  rintro e w6 ⟨t1, B1, rfl, k6, _, _, hM1⟩
  clear HC1
  have u1 := k6.cellv s1 id
  have u2 := k6.cellv s2 id
  have kw6 := kw5.trans k6 (fun _ _ e => e)
  have hvne : blob7 f 399 I ^^^ V ≠ blob7 f 399 I := fun e => by have := xor_eq_self e; omega
  have HG2 : Hid (∀ i, (fun j => if j = I then blob7 f 399 I ^^^ V else blob7 f 399 j) i < 256) := fun i => by
    dsimp only; split
    · exact xor8 (HG.out I) v2
    · exact HG.out i
  have HAp : Hid (_ ∧ _ ∧ _ ≠ _) := apart_data (la := 400) x2 hvne b1 HG.out (xor8 (HG.out I) v2)
  have HC2 : Hid (Calls _ _ _ w6 _) := cut_yes K M (400) (.slice (some ⟨g2, 0, none⟩) (400) c2) _ w6 ⟨_, g2, 0, c2, rfl, fun _ _ => rfl, fun j hj => by rw [Nat.zero_add]; exact (hR5.keep k6 id).cell hj, HG2.out⟩ (by omega) (by omega) (by omega) (kw6.pows hp id)
  clear hR1 hR2 hR5 hR5'
  go_wp2_with fail
  refine HC2.out.mono ?_
  rintro e w7 ⟨t2, B2, rfl, k7, _, _, hM2⟩
  clear HC2
  have y1 := k7.cellv u1 id
  have y2 := k7.cellv u2 id
  have kw7 := kw6.trans k7 (fun _ _ e => e)
  have hM17 := hM1.keep k7 id (fun _ _ => id)
  have HSm : Hid (∀ w', Kp (fun _ => False) w7 w' → Calls _ _ _ w' _) := fun w' k' => sameTexts_any (ofMat t1 B1 (K + M) _ _) (ofMat t2 B2 (K + M) _ _) w' (hM17.keep k' id (fun _ _ => id)).rd (hM2.keep k' id (fun _ _ => id)).rd (by show ((K + M : Nat) : Int) ≤ _; omega) false (fun h => by cases h) (fun _ hs => HAp.out.2.2 ((hs.2 _ (Nat.lt_of_lt_of_le HAp.out.1 (Nat.le_add_right K M))).2 _ HAp.out.2.1))
  have HLn : Hid (∀ w', Calls _ _ _ w' _) := fun w' => length_yes K M (400) w' (by omega) (by omega) (by omega)
  have a0 := hM17.top.cell (i := 0) (by omega)
  obtain ⟨l1, l2⟩ := lenOf_bd (K := K) (size := 400) (by omega) (by omega)
  have hq1 : ((K : Int) + (M : Int) == (K : Int) + (M : Int)) = true := beq_self_eq_true _
  generalize lenOf K (400) = N at *
  have hq2 : ((N : Int) == (N : Int)) = true := beq_self_eq_true _
  clear hM1 hM2 hM17 u1 u2 s1 s2 q1 q2
  obtain ⟨J, W, hne, hW, hJ⟩ : ∃ (J : Type) (W : J → World), Nonempty J ∧ Hid (∀ j, Kp (fun _ => False) w7 (W j)) ∧ Hid (∀ x, Kp (fun _ => False) w7 x → ∃ j, x = W j) :=
    ⟨{x // Kp (fun _ => False) w7 x}, Subtype.val, ⟨⟨w7, Kp.refl _ _⟩⟩, fun j => j.2, fun x h => ⟨⟨x, h⟩, rfl⟩⟩
  have z0 : ∀ j, (W j).cell? ⟨t1, 0, none⟩ = some (.slice (some ⟨B1 0, 0, none⟩) N N) := fun j => (hW.out j).cellv a0 id
  have z1 : ∀ j, (W j).cell? ⟨w1.heap.size, 0, none⟩ = some (.int .i64 (K : Int)) := fun j => (hW.out j).cellv y1 id
  have z2 : ∀ j, (W j).cell? ⟨w1.heap.size, 1, none⟩ = some (.int .i64 (M : Int)) := fun j => (hW.out j).cellv y2 id
  have hKM : 0 < K + M := by omega
  have hKMi : (0 : Int) < (K : Int) + (M : Int) := by omega
  clear a0 y1 y2
  go_wp2
  refine wp_region_quiet_lit_C (C := fun w' => ∃ j, w' = W j) (by kernel_rfl) (by kernel_rfl) (hJ.out _ (Kp.refl _ _).drew) ?_
  repeat (first
    | quiet_step (first
      | (go_at_call 7; exact (HSm.out _ (hW.out _)).mono (fun e w'' ⟨he, hw⟩ => ⟨he, _, hw⟩))
      | (go_at_call 8; exact (HLn.out _).mono (fun e w'' ⟨he, hk⟩ => ⟨he, hJ.out _ ((hW.out _).trans hk (fun _ _ e => e))⟩))))
  refine wpQuiet_nil ?_
  rintro w' ⟨j, rfl⟩
  have kj := kw7.trans (hW.out j) (fun _ _ e => e)
  clear hW hJ z0 z1 z2 HSm HLn
  go_wp2
  go_ret
  exact ⟨rfl, kj⟩

theorem apart_walk (k m : Int) (a : Value) (la : Nat) (f : Nat → Nat) (x y : Int) (w : World) (ha : Bc w a la f) (hp : Pows w) :
    Calls Tryd.prog 3 #[.int .i64 k, .int .i64 m, a, .int .i64 x, .int .i64 y] w fun e w' => e = .returned (.bool true) ∧ Kp (fun _ => False) w w' := by
  obtain ⟨pa, ba, oa, ca, rfl, h1, h2, h3, h4⟩ := ha
  by_cases h : (la : Int) ≤ 399
  · exact apart_small k m pa la ca f x y w ba oa h1 h2 h3 h (by omega) hp
  · exact apart_great k m pa la ca f x y w ba oa (fun k hk => h1 k (by omega)) (fun k hk => h2 k (by omega)) h3 (by omega) (by omega) hp
end Go.Proofs.YtokicnokinkpfaaDoor
