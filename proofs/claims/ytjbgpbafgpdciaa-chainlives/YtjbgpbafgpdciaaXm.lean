/- The walk of the law ChainLives (laid by scripts/mkxm.py). -/
import Derived.Test.YtjbgpbafgpdciaaXi
import Derived.Test.YtjbgpbafgpdciaaXj
namespace Go.Proofs.Ytjbgpbafgpdciaa
set_option linter.unusedVariables false
set_option linter.unusedSimpArgs false
open Go.RowKit Go.Deep Go.Maps

theorem run_few : ∀ (i : Nat) (l : List Int) (s : Int), (∀ j : Nat, j ≤ i → s + (j : Int) ∈ l) → i < l.length
  | 0, l, s, h => by
    have := h 0 (Nat.le_refl _)
    cases l with
    | nil => cases this
    | cons x l => simp
  | i + 1, l, s, h => by
    have hm := h (i + 1) (Nat.le_refl _)
    have hl : (l.erase (s + ((i + 1 : Nat) : Int))).length = l.length - 1 := List.length_erase_of_mem hm
    have hp : 0 < l.length := List.length_pos_of_mem hm
    have := run_few i (l.erase (s + ((i + 1 : Nat) : Int))) s (fun j hj => (List.mem_erase_of_ne (by omega)).2 (h j (by omega)))
    omega
theorem few_links (l : List (Xk × Value)) (s1 : Int) (i : Nat) (h : ∀ j : Nat, j ≤ i → (CX (l.map (·.1)) (s1 + (j : Int))).isSome = true) : i < l.length := by
  have := run_few i (l.map (fun y => y.1.slot)) s1 (fun j hj => by
    have hj' := h j hj
    rw [CX_some] at hj'
    obtain ⟨x, hx⟩ := Option.isSome_iff_exists.1 hj'
    unfold xat at hx
    have h1 := List.find?_some hx
    have h2 := List.mem_of_find?_eq_some hx
    obtain ⟨y, hy, rfl⟩ := List.mem_map.1 h2
    rw [List.mem_map]
    exact ⟨y, hy, by simpa using h1⟩)
  simpa using this

theorem get_pair {w0 w : World} {t L m k : Nat} (h : Lc w0 w t L m k) (s : Int) (hs : -9223372036854775808 ≤ s ∧ s ≤ 9223372036854775807) :
    ∃ (b : Bool) (c : Cs0) (zs : List Int), Calls Try.prog 14 #[.pointer (some ⟨L, 0, none⟩), .int .i64 s] w (fun e w1 => ∃ nv, e = .returned (.tuple #[.agg (cmdA c nv), .bool b]) ∧ Kp (fun _ => False) w w1 ∧ Ni w1 (fun b => w.heap.size ≤ b ∧ b < w1.heap.size) zs nv) ∧
      ∀ w1, Kp (fun _ => False) w w1 → Calls Try.prog 15 #[.pointer (some ⟨t, 0, none⟩), .int .i64 s] w1 (fun e w2 => ∃ nv, e = .returned (.tuple #[.agg (cmdA c nv), .bool b]) ∧ Kp (fun _ => False) w1 w2 ∧ Ni w2 (fun b => w1.heap.size ≤ b ∧ b < w2.heap.size) zs nv) := by
  obtain ⟨Z, q, c, nxt, C, base, v, l, P, hl, hq⟩ := h
  have e1 := pl_some (P.ag s)
  have e2 := pl_plain (P.ag s)
  have e3 : (at0 C s).1 = (at0 (CX (l.map (·.1))) s).1 := congrArg (fun x : Cs0 × List Int => x.1) e2
  have e4 : (at0 C s).2.1 = (at0 (CX (l.map (·.1))) s).2.1 := congrArg (fun x : Cs0 × List Int => x.2) e2
  refine ⟨(C s).isSome, (at0 C s).1, (at0 C s).2.1, (cget_ok P.ch s hs).mono ?_, fun w1 k1 => (xcget2 (P.keep k1).xq.xh s).mono ?_⟩
  · rintro e w1 ⟨_, rfl, k1, nv, rfl, hni⟩
    exact ⟨nv, rfl, k1, hni⟩
  · rintro e w2 ⟨_, rfl, k2, nv, rfl, hni⟩
    rw [e1, e3, e4]
    exact ⟨nv, rfl, k2, hni⟩

theorem from_pair {w0 w : World} {t L m k : Nat} (h : Lc w0 w t L m k) (s most : Int) (hs : -9223372036854775808 ≤ s ∧ s ≤ 9223372036854775807) :
    Calls Try.prog 18 #[.pointer (some ⟨L, 0, none⟩), .int .i64 s, .int .i64 most] w (fun e w1 => ∃ v1, e = .returned v1 ∧ Kp (fun _ => False) w w1 ∧
      Calls Try.prog 19 #[.pointer (some ⟨t, 0, none⟩), .int .i64 s, .int .i64 most] w1 fun e w2 => ∃ v2, e = .returned v2 ∧ Kp (fun _ => False) w w2 ∧
        Calls Try.prog 17 #[v1, v2, .func (.func 16) #[] #[]] w2 fun e w3 => e = .returned (.bool true) ∧ Kp (fun _ => False) w w3) := by
  obtain ⟨Z, q, c, nxt, C, base, v, l, P, hl, hq⟩ := h
  have hz := P.xq.z
  have hfew : ∀ i : Nat, (∀ j : Nat, j ≤ i → (CX (l.map (·.1)) (max s 1 + (j : Int))).isSome = true) → i < l.length := fun i hi => few_links l _ i hi
  refine (cfrom_ok2 P.ch s most hs l.length ⟨by omega, fun i hi => hfew i (fun j hj => by rw [← pl_some (P.ag _)]; exact hi j hj)⟩).mono ?_
  rintro e w1 ⟨v1, rfl, o1, k1, r1, my1, f1⟩
  refine ⟨v1, rfl, r1.k, ?_⟩
  refine (xcfrom_ok rfl (P.keep r1.k).xq.xh s most hs l.length ⟨by omega, hfew⟩).mono ?_
  rintro e w2 ⟨v2, rfl, o2, k2, r2, my2, f2⟩
  have k02 := r1.k.trans r2.k (fun _ _ e => e)
  refine ⟨v2, rfl, k02, ?_⟩
  obtain rfl : k1 = k2 := Mny.uniq (mny_pl P.ag my1) my2
  have hlen : o1.length = k1 := by have := congrArg List.length f1; rw [frm_len, List.length_map] at this; exact this
  have hk1 : k1 ≤ l.length := by
    by_cases e : k1 = 0
    · omega
    · have := hfew (k1 - 1) (fun j hj => by rw [← pl_some (P.ag _)]; exact my1.all j (by omega))
      omega
  have r1' := r1.keep r2.k
  obtain ⟨q1, c1, rfl, fl1⟩ := own_fl r1'.o
  obtain ⟨q2, c2, rfl, fl2⟩ := own_fl r2.o
  refine (eqf_cmds (fun _ => True) (fun _ => True) q1 q2 c1 c2 o1 o2 w2 (by rw [f1, f2, frm_pl _ _ P.ag]) (fl1.mono (fun _ _ => trivial)) (fl2.mono (fun _ _ => trivial)) (fun y hy => (r1'.n y hy).mono (fun _ _ => trivial)) (fun y hy => (r2.n y hy).mono (fun _ _ => trivial)) (by show _ ≤ _; omega)).mono ?_
  rintro e w3 ⟨rfl, k3⟩
  exact ⟨rfl, k02.trans k3 (fun _ _ e => e)⟩

theorem begin_pair {w w1 : World} {L m : Nat} (k1 : Kp (fun _ => False) w w1) (hL : w.heap.size ≤ L) (hm : w.heap.size ≤ m) (hc : Ch w1 (fun _ => False) L m 0 0 1 (fun _ => none)) :
    Lc w (w1.alloc (.cells #[.slice none 0 0] 28)) w1.heap.size L m 0 := by
  have ka : Kp (fun _ => False) w1 (w1.alloc (.cells #[.slice none 0 0] 28)) := (Kp.refl _ _).alloc _
  have hlt := hc.lt
  have hsz := k1.size
  refine ⟨fun _ => False, 0, 0, 1, fun _ => none, w.heap.size, .slice none 0 0, [], ⟨k1.trans ka (fun _ _ e => e), hc.keep0 ka, ⟨Lv.new w1 _ _, World.ownsRow_nil _ _ _ _, fun y hy => (by cases hy), by decide, fun y hy => (by cases hy), by simp [Value.ownBlock], hsz⟩, fun z => rfl, fun b hb => hb.elim, fun y hy => (by cases hy), ⟨by omega, by omega, by simp [Value.ownBlock], by simp [Value.ownBlock]⟩, ⟨hsz, hL, hm, fun b e => by simp [Value.ownBlock] at e⟩⟩, Nat.le_refl _, Nat.le_refl _⟩

set_option maxRecDepth 100000 in
set_option maxHeartbeats 6400000 in
theorem chainLives_walk (v : Value) (N : Nat) (most : Int) (w : World) (h : VotesIn w v N) :
    Calls Try.prog 3 #[v, .int .i64 most] w fun e w' => e = .returned (.bool true) ∧ Kp (fun _ => False) w w' := by
  obtain ⟨p, cp, l, rfl, hL, hf, hv, hb, hs⟩ := h
  have HV : Hid (N = l.length ∧ Fl w (· < w.heap.size) p (vflat l) ∧ Vn w (· < w.heap.size) l ∧ ∀ x ∈ l, -9223372036854775808 ≤ x.1.slot ∧ x.1.slot ≤ 9223372036854775807) := ⟨hL, hf, hv, hs⟩
  have HLb : Hid (N * 136 ≤ 140737488355328) := by rw [hL]; exact hb
  clear hL hf hv hb hs
  go_enter Try.func3, Try.ntmps3
  go_wp2_with fail
  refine (cnew_ok w).mono ?_
  rintro e w1 ⟨L, m, rfl, k1, hL1, hm1, hch⟩
  have HB : Hid (Lc w (w1.alloc (.cells #[.slice none 0 0] 28)) w1.heap.size L m 0) := begin_pair k1 hL1 hm1 hch
  clear k1 hL1 hm1 hch
  go_wp2
  obtain ⟨t, ht⟩ : ∃ t, t = w1.heap.size := ⟨_, rfl⟩
  rw [← ht] at HB ⊢
  go_loopg [18] N (fun gk i wr => ∃ (k : Nat), k ≤ N ∧ gk = N - k ∧ i = .int .i64 k ∧ Hid (k ≤ 31 ∧ Lc w wr t L m k))
  case atStart => exact ⟨0, by omega, rfl, rfl, by decide, HB.out⟩
  case round =>
    obtain ⟨k, hk, rfl, rfl, HR⟩ := hrel
    obtain ⟨wr0, rfl⟩ : ∃ x, x = wr := ⟨_, rfl⟩
    clear HB ht
    by_cases hlt : (k : Int) < (N : Int)
    · have hkl : k < l.length := by have := HV.out.1; omega
      have hkw : Kp (fun _ => False) w wr0 := by
        obtain ⟨_, _, _, _, _, _, _, _, P, _⟩ := HR.out.2
        exact P.k
      obtain ⟨b1, o1, rfl, r1⟩ := fl_v (HV.out.2.1.keep hkw (fun _ _ => id)) hkl
      obtain ⟨x, hx⟩ : ∃ x, x = l[k] := ⟨_, rfl⟩
      have hxm : x ∈ l := by rw [hx]; exact List.getElem_mem hkl
      rw [← hx] at r1
      have HR1 : Hid (wr0.rangeAt b1 (o1 + k * 14) (vcell x.1 x.2)) := r1
      have HNx : Hid (Ni wr0 (· < w.heap.size) x.1.nodes x.2) := Ni.keep (HV.out.2.2.1 x hxm) hkw (fun _ _ => id)
      have HSx : Hid (-9223372036854775808 ≤ x.1.slot ∧ x.1.slot ≤ 9223372036854775807) := HV.out.2.2.2 x hxm
      have HOx : Hid ((vcell x.1 x.2).toArray.all (·.oneCell') = true) := vc_one x.1 (by obtain ⟨_, _, e, _⟩ := HNx.out; rw [e]; rfl)
      obtain ⟨xs, hxs⟩ : ∃ xs, xs = vcell x.1 x.2 := ⟨_, rfl⟩
      have HXS : Hid (xs = vcell x.1 x.2 ∧ xs.length = 14) := ⟨hxs, by rw [hxs]; rfl⟩
      rw [← hxs] at HR1 HOx
      obtain ⟨d, hd1, hd2⟩ := dsVo
      have HWk : Hid (wrap64 ((k : Int) + 1) = ((k + 1 : Nat) : Int)) := wrapV k N hk HLb.out
      clear r1 hx hxm hxs hkl hkw
      by_cases h30 : (k : Int) > 30
      · go_wp2_with (first
          | (refine wpList_load_mid rfl 36 _ rfl b1 (o1 + k * 14) rfl xs d HR1.out hd1 hd2 (by rw [szVo, HXS.out.2]) ?_)
          | (refine wpList_store_all rfl 36 _ _ rfl 14 wr0.heap.size (vcell vo0 nil0) xs rfl rfl (by exact Lv.new wr0 _ _) szVo rfl HXS.out.2 HOx.out ?_; intro zz hl4 k4; have kn4 : Kp (fun _ => False) wr0 zz := ((Kp.refl (fun _ => False) wr0).alloc _).trans k4 (fun b hb e => by omega); clear hl4 k4)
          | fail)
        have HLc : Hid (Lc w zz t L m k) := HR.out.2.keep kn4
        clear kn4 HR HR1 HOx HNx HXS
        obtain ⟨n, hn1, hn2⟩ := next_pair HLc.out
        have HN1 : Hid (Calls _ _ _ _ _) := hn1
        have HN2 : Hid (∀ w1, Kp (fun _ => False) _ w1 → Calls _ _ _ w1 _) := hn2
        have HKw : Hid (Kp (fun _ => False) w zz) := by
          obtain ⟨_, _, _, _, _, _, _, _, P, _⟩ := HLc.out
          exact P.k
        clear hn1 hn2 HLc
        go_wp2_with (first
          | (go_at_call 12; refine HN1.out.mono ?_; rintro e y1 ⟨rfl, ka⟩)
          | (go_at_call 13; refine (HN2.out _ ka).mono ?_; rintro e y2 ⟨rfl, kb2⟩))
        go_ret
        exact ⟨by simp, (HKw.out.trans ka (fun _ _ e => e)).trans kb2 (fun _ _ e => e)⟩
      · go_wp2_with (first
          | (refine wpList_load_mid rfl 36 _ rfl b1 (o1 + k * 14) rfl xs d HR1.out hd1 hd2 (by rw [szVo, HXS.out.2]) ?_)
          | (refine wpList_store_all rfl 36 _ _ rfl 14 wr0.heap.size (vcell vo0 nil0) xs rfl rfl (by exact Lv.new wr0 _ _) szVo rfl HXS.out.2 HOx.out ?_; intro w4 hl4 k4; have kn4 : Kp (fun _ => False) wr0 w4 := ((Kp.refl (fun _ => False) wr0).alloc _).trans k4 (fun b hb e => by omega); have HL4 : Hid (Lv w4 wr0.heap.size xs) := hl4; clear hl4 k4)
          | fail)
        obtain ⟨kb, hkb⟩ : ∃ kb, kb = wr0.heap.size := ⟨_, rfl⟩
        rw [← hkb] at HL4 ⊢
        have HSL : Hid (∀ z, Lv z kb xs → z.cell? ⟨kb, 0, none⟩ = some (.int .i64 x.1.slot) ∧ (loadVar 34 ⟨kb, 2, none⟩).run Try.prog z = .ok (.agg (cmdA x.1.c x.2)) z) := fun z hz => by
          rw [HXS.out.1] at hz
          obtain ⟨dc, hdc1, hdc2⟩ := dsCmd
          exact ⟨hz.cell (j := 0) rfl, run_loadVar_mid z kb 2 34 (cmdA x.1.c x.2).toList dc (lv_cmd hz) hdc1 hdc2 (by rw [szCmd]; rfl)⟩
        have kd : Kp (fun _ => False) w4 w4.drew := (Kp.refl _ _).drew
        have hS0 := HSL.out w4.drew (HL4.out.keep kd id)
        have hc6 := learn_pair HR.out.2 (kn4.trans kd (fun _ _ e => e)) kb xs (HL4.out.keep kd id) (by omega) (by rw [HXS.out.2]; decide) x.1.slot HSx.out x.1.c x.1.nodes x.2 ((HNx.out.keep kn4 (fun _ _ => id)).keep kd (fun _ _ => id)) (by omega)
        refine cl6_region ⟨by kernel_rfl, by kernel_rfl, by kernel_rfl, by kernel_rfl, by kernel_rfl, by kernel_rfl, by kernel_rfl, by kernel_rfl, by kernel_rfl, by kernel_rfl, by kernel_rfl, by kernel_rfl, by kernel_rfl, by kernel_rfl, by kernel_rfl, by kernel_rfl, by kernel_rfl, by kernel_rfl, by kernel_rfl, by kernel_rfl, by kernel_rfl, by kernel_rfl, by kernel_rfl, by kernel_rfl, by kernel_rfl, by kernel_rfl, by kernel_rfl, by kernel_rfl, by kernel_rfl, by kernel_rfl⟩ L t kb x.1.slot x.1.c x.2 0 0 (fun d _ _ _ _ h => by cases d <;> exact h) (by rfl) (by rfl) (by rfl) (by rfl) hS0 (fun z => Lc w z t L m (k + 1) ∧ Lv z kb xs) (hc6.mono ?_) ?_
        · rintro e z1 ⟨r, rfl, lv1, hc2⟩
          refine ⟨r, rfl, HSL.out z1 lv1, hc2.mono ?_⟩
          rintro e z2 ⟨rfl, lv2, lc2⟩
          obtain ⟨n, hn1, hn2⟩ := next_pair lc2
          refine ⟨rfl, HSL.out z2 lv2, n, hn1.mono ?_⟩
          rintro e z3 ⟨rfl, k3⟩
          refine ⟨rfl, HSL.out z3 (lv2.keep k3 id), (hn2 z3 k3).mono ?_⟩
          rintro e z4 ⟨rfl, k4⟩
          have k34 := k3.trans k4 (fun _ _ e => e)
          exact ⟨rfl, HSL.out z4 (lv2.keep k34 id), lc2.keep k34, lv2.keep k34 id⟩
        intro r n z9 hT
        simp only [Act.put, List.setIfInBounds_toArray, List.set_cons_succ, List.set_cons_zero]
        have HT : Hid (Lc w z9 t L m (k + 1) ∧ Lv z9 kb xs) := hT
        clear hT hc6 hS0 kd HL4 kn4 HR HR1 HOx HNx hkb
        obtain ⟨b, cc, zs, hg1, hg2⟩ := get_pair HT.out.1 x.1.slot HSx.out
        have HG2 : Hid (∀ w1, Kp (fun _ => False) z9 w1 → Calls _ _ _ w1 _) := hg2
        have HG1 : Hid (Calls _ _ _ z9 _) := hg1
        have d0 := (HSL.out z9 HT.out.2).1
        clear hg1 hg2
        go_wp2_with fail
        refine HG1.out.mono ?_
        rintro e y1 ⟨nv1, rfl, ka, hni1⟩
        have HN1 : Hid (Kp (fun _ => False) z9 y1 ∧ Ni y1 (fun b => z9.heap.size ≤ b ∧ b < y1.heap.size) zs nv1) := ⟨ka, hni1⟩
        have HO1 : Hid ((cmdA cc nv1).toList.toArray.all (·.oneCell') = true) := cmd_one cc (by obtain ⟨_, _, e, _⟩ := hni1; rw [e]; rfl)
        obtain ⟨ya, hya⟩ : ∃ ya : Array Value, ya = cmdA cc nv1 := ⟨_, rfl⟩
        have HYA : Hid (ya = cmdA cc nv1) := hya
        rw [← hya] at HO1 ⊢
        clear HG1 hni1 hya d0 ka
        go_wp2_with (first
          | (refine wpList_store_all rfl 34 _ _ rfl 12 y1.heap.size zeroC.toList ya.toList rfl (by rw [Array.toArray_toList]; rfl) (by exact Lv.new y1 _ _) szCmd rfl (by rw [HYA.out]; rfl) HO1.out ?_; intro y2 hl2 k2; have kn2 : Kp (fun _ => False) y1 y2 := ((Kp.refl (fun _ => False) y1).alloc _).trans k2 (fun b hb e => by omega); have HY2 : Hid (Kp (fun _ => False) z9 y2 ∧ Lv y2 y1.heap.size ya.toList ∧ Ni y2 (fun b => z9.heap.size ≤ b ∧ b < y1.heap.size) zs nv1) := ⟨HN1.out.1.trans kn2 (fun _ _ e => e), hl2, HN1.out.2.keep kn2 (fun _ _ => id)⟩; have d0 : y2.cell? ⟨kb, 0, none⟩ = some (.int .i64 x.1.slot) := (HSL.out y2 (HT.out.2.keep HY2.out.1 id)).1; clear hl2 k2 kn2)
          | fail)
        refine (HG2.out y2 HY2.out.1).mono ?_
        rintro e y3 ⟨nv2, rfl, ka, hni2⟩
        have HN2 : Hid (Kp (fun _ => False) y2 y3 ∧ Ni y3 (fun b => y2.heap.size ≤ b ∧ b < y3.heap.size) zs nv2) := ⟨ka, hni2⟩
        have HO2 : Hid ((cmdA cc nv2).toList.toArray.all (·.oneCell') = true) := cmd_one cc (by obtain ⟨_, _, e, _⟩ := hni2; rw [e]; rfl)
        obtain ⟨yb, hyb⟩ : ∃ yb : Array Value, yb = cmdA cc nv2 := ⟨_, rfl⟩
        have HYB : Hid (yb = cmdA cc nv2) := hyb
        rw [← hyb] at HO2 ⊢
        clear HG2 hni2 hyb d0 ka
        obtain ⟨pa, hpa⟩ : ∃ pa, pa = y1.heap.size := ⟨_, rfl⟩
        rw [← hpa] at HY2 ⊢
        clear hpa
        go_wp2_with (first
          | (refine wpList_store_all rfl 34 _ _ rfl 12 y3.heap.size zeroC.toList yb.toList rfl (by rw [Array.toArray_toList]; rfl) (by exact Lv.new y3 _ _) szCmd rfl (by rw [HYB.out]; rfl) HO2.out ?_; intro y4 hl4 k4; have kn4 : Kp (fun _ => False) y3 y4 := ((Kp.refl (fun _ => False) y3).alloc _).trans k4 (fun b hb e => by omega); have HY4 : Hid (Kp (fun _ => False) z9 y4 ∧ Lv y4 pa ya.toList ∧ Lv y4 y3.heap.size yb.toList ∧ Ni y4 (fun b => z9.heap.size ≤ b ∧ b < pa) zs nv1 ∧ Ni y4 (fun b => y2.heap.size ≤ b ∧ b < y3.heap.size) zs nv2) := ⟨(HY2.out.1.trans HN2.out.1 (fun _ _ e => e)).trans kn4 (fun _ _ e => e), (HY2.out.2.1.keep HN2.out.1 id).keep kn4 id, hl4, (HY2.out.2.2.keep HN2.out.1 (fun _ _ => id)).keep kn4 (fun _ _ => id), HN2.out.2.keep kn4 (fun _ _ => id)⟩; clear hl4 k4 kn4)
          | fail)
        obtain ⟨pb, hpb⟩ : ∃ pb, pb = y3.heap.size := ⟨_, rfl⟩
        rw [← hpb] at HY4 ⊢
        have kd : Kp (fun _ => False) y4 y4.drew := (Kp.refl _ _).drew
        have HS : Hid (∀ z, Kp (fun _ => False) y4 z → z.cell? ⟨kb, 0, none⟩ = some (.int .i64 x.1.slot) ∧ (loadVar 34 ⟨pa, 0, none⟩).run Try.prog z = .ok (.agg ya) z ∧ (loadVar 34 ⟨pb, 0, none⟩).run Try.prog z = .ok (.agg yb) z) := fun z kz => by
          refine ⟨?_, ?_, ?_⟩
          · exact (HSL.out z ((HT.out.2.keep HY4.out.1 id).keep kz id)).1
          · have := (HY4.out.2.1.keep kz id).load dsCmd szCmd (by rw [HYA.out]; rfl)
            rw [Array.toArray_toList] at this
            exact this
          · have := (HY4.out.2.2.1.keep kz id).load dsCmd szCmd (by rw [HYB.out]; rfl)
            rw [Array.toArray_toList] at this
            exact this
        have hsm := psame_ok cc cc _ _ zs zs nv1 nv2 y4.drew (HY4.out.2.2.2.1.keep kd (fun _ _ => id)) (HY4.out.2.2.2.2.keep kd (fun _ _ => id))
        rw [← HYA.out, ← HYB.out] at hsm
        refine cl10_region ⟨by kernel_rfl, by kernel_rfl, by kernel_rfl, by kernel_rfl, by kernel_rfl, by kernel_rfl, by kernel_rfl, by kernel_rfl, by kernel_rfl, by kernel_rfl, by kernel_rfl, by kernel_rfl, by kernel_rfl, by kernel_rfl, by kernel_rfl, by kernel_rfl, by kernel_rfl, by kernel_rfl, by kernel_rfl, by kernel_rfl, by kernel_rfl, by kernel_rfl, by kernel_rfl, by kernel_rfl, by kernel_rfl, by kernel_rfl, by kernel_rfl, by kernel_rfl, by kernel_rfl, by kernel_rfl, by kernel_rfl, by kernel_rfl, by kernel_rfl⟩ L t kb pa pb x.1.slot most b ya yb (.int .i64 0) (.int .i64 0) (fun d _ _ _ _ h => by cases d <;> exact h) (by rfl) (by rfl) (by rfl) (by rfl) (by rfl) (by rfl) (by rfl) (by rfl) (by rfl) (HS.out _ kd) (fun z => Kp (fun _ => False) z9 z) (hsm.mono ?_) ?_
        · rintro e u1 ⟨b9, rfl, hb9, k1⟩
          obtain rfl : b9 = true := hb9.2 ⟨rfl, rfl⟩
          have k41 := kd.trans k1 (fun _ _ e => e)
          have k91 := HY4.out.1.trans k41 (fun _ _ e => e)
          refine ⟨rfl, HS.out u1 k41, ?_⟩
          refine (from_pair (HT.out.1.keep k91) x.1.slot most HSx.out).mono ?_
          rintro e u2 ⟨v1, rfl, k2, hc3⟩
          refine ⟨v1, rfl, HS.out u2 (k41.trans k2 (fun _ _ e => e)), ?_⟩
          refine hc3.mono ?_
          rintro e u3 ⟨v2, rfl, k3, hc4⟩
          refine ⟨v2, rfl, HS.out u3 (k41.trans k3 (fun _ _ e => e)), hc4.mono ?_⟩
          rintro e u4 ⟨rfl, k4⟩
          exact ⟨rfl, HS.out u4 (k41.trans k4 (fun _ _ e => e)), k91.trans k4 (fun _ _ e => e)⟩
        intro v1 v2 z10 hT
        simp only [Act.put, List.setIfInBounds_toArray, List.set_cons_succ, List.set_cons_zero]
        have HRn : Hid (k + 1 ≤ 31 ∧ Lc w z10 t L m (k + 1)) := ⟨by omega, HT.out.1.keep hT⟩
        clear hT hsm HS kd HY4 HY2 HN2 HN1 HT HSL HO1 HO2 HYA HYB hpb
        go_wp2
        go_roundg (N - (k + 1))
        case rel => exact ⟨k + 1, by omega, rfl, by first | rfl | rw [HWk.out] | go_num, HRn⟩
        case measure => omega
    · obtain ⟨zz, rfl⟩ : ∃ x, x = wr0 := ⟨_, rfl⟩
      have HLc : Hid (Lc w zz t L m k) := HR.out.2
      clear HR
      obtain ⟨n, hn1, hn2⟩ := next_pair HLc.out
      have HN1 : Hid (Calls _ _ _ _ _) := hn1
      have HN2 : Hid (∀ w1, Kp (fun _ => False) _ w1 → Calls _ _ _ w1 _) := hn2
      have HKw : Hid (Kp (fun _ => False) w zz) := by
        obtain ⟨_, _, _, _, _, _, _, _, P, _⟩ := HLc.out
        exact P.k
      clear hn1 hn2 HLc
      go_wp2_with (first
        | (go_at_call 12; refine HN1.out.mono ?_; rintro e y1 ⟨rfl, ka⟩)
        | (go_at_call 13; refine (HN2.out _ ka).mono ?_; rintro e y2 ⟨rfl, kb2⟩))
      go_ret
      exact ⟨by simp, (HKw.out.trans ka (fun _ _ e => e)).trans kb2 (fun _ _ e => e)⟩
end Go.Proofs.Ytjbgpbafgpdciaa
