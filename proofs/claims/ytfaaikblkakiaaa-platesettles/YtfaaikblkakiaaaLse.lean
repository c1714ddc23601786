/- The walk of the law PlateSettles: a crash that keeps all is a sync, one that keeps nothing leaves the image. -/
import Derived.Test.YtfaaikblkakiaaaSc
import Derived.Test.YtfaaikblkakiaaaPq
import Derived.Test.YtfaaikblkakiaaaFd
namespace Go.Proofs.Ytfaaikblkakiaaa
open Go.RowKit Go.Deep Go.Maps

set_option maxRecDepth 100000 in
set_option maxHeartbeats 1600000 in
theorem plateSettles_walk0 (v : Value) (L : Nat) (w : World) (h : Dos w v L) :
    Calls Try.prog 6 #[v] w fun e w' => e = .returned (.bool true) ∧ Kp (fun _ => False) w w' := by
  have H1 : Hid (Calls _ _ _ w _) := written_was v L w h
  go_enter Try.func6, Try.ntmps6
  go_wp2_with fail
  refine H1.out.mono ?_
  rintro e w1 ⟨b, d, m, q, t, t2, c2, rfl, hc2, k1, hq, ⟨hb, hd, hm, ht, ht2⟩, V, N, dur, T, hP, hN, hEq, hVt, hWv⟩
  have hz1 := k1.size
  have hbl := hP.lt
  have hdl := hP.row.lt
  have hml := hP.mp.lt
  have HCp : Hid (∀ w', Kp (fun _ => False) w1 w' → Calls _ _ _ w' _) := fun w' k' => copy_ok (hP.keep k' id id id)
  have HNow : Hid (Nows w1 b d m t 6 V (fun i => nowOf dur T i)) := ⟨hN.top, fun r hr => by rw [← hEq r hr]; exact hN.row r hr, hN.tb⟩
  have HWv : Hid _ := hWv
  have HP : Hid (Pt w1 b d m 6 q dur T) := hP
  clear H1 h hP hN hEq hVt hWv
  go_wp2_with fail
  refine (HCp.out _ (Kp.refl _ _)).mono ?_
  rintro e w2 ⟨b1, d1, m1, rfl, k2, hb1, hd1, hm1, hP1⟩
  have HP1 : Hid _ := hP1
  clear hP1
  go_wp2_with fail
  refine (HCp.out _ k2).mono ?_
  rintro e w3 ⟨b2, d2, m2, rfl, k3, hb2, hd2, hm2, hP2⟩
  have HP2 : Hid _ := hP2
  clear hP2 HCp
  have hz2 := k2.size
  have hz3 := k3.size
  have hb1l := HP1.out.lt
  have hd1l := HP1.out.row.lt
  have hm1l := HP1.out.mp.lt
  have hP13 := HP1.out.keep k3 id id id
  have k13 := k2.trans k3 (fun _ _ e => e)
  -- the first copy: Dirty, Crash, Image
  have HDi : Hid (Calls _ _ _ w3 _) := dirty_ok hP13
  go_wp2_with fail
  refine HDi.out.mono ?_
  rintro e w4 ⟨v4, rfl, k4, is4⟩
  clear HDi
  obtain ⟨p4, c4, rfl, rz4, hp4⟩ := is4.rz
  have hP14 := hP13.keep k4 id id id
  have HCr : Hid (Calls _ _ _ w4 _) := crash_ok hP14 p4 c4 (dks T 6) (-1) 0 (fun w' k' => rz4.keep k' (fun a ha e => by have := (hp4 a ha).1; rw [e] at this; omega)) (fun z hz => by obtain ⟨i, hi, _, rfl⟩ := mem_dks.1 hz; exact wf_nat i (by omega)) (by rfl) (by have := dks_len T 6; omega)
  go_wp2_with fail
  refine HCr.out.mono ?_
  rintro e w5 ⟨rfl, k5, hP15⟩
  have HIm : Hid (Calls _ _ _ w5 _) := image_ok hP15
  have HBy : Hid (∀ x ∈ crashD dur T (dks T 6) (-1) 0, x < 256) := hP15.byte
  have k14 := k13.trans k4 (fun _ _ e => e)
  have k15 : Kp (fun _ => False) w1 w5 := k14.trans k5 (fun x hx e => by omega)
  have k35 : Kp (fun x => x = d1 ∨ x = m1) w3 w5 := (k4.mono (fun _ _ e => e.elim)).trans k5 (fun _ _ e => e)
  have HP25 : Hid _ := HP2.out.keep k35 (fun e => by omega) (fun e => by omega) (fun e => by omega)
  have HT64 : Hid _ := HP.out.tlen
  have HLn : Hid _ := HP.out.len
  clear HCr hP15 hP14 hP13 HP1 HP2 rz4 hp4 is4
  go_wp2_with fail
  refine HIm.out.mono ?_
  rintro e w6 ⟨t6, V6, rfl, k6, z6, r6, o6⟩
  have k16 := k15.trans k6 (fun _ _ e => e)
  have HP26 : Hid _ := HP25.out.keep k6 id id id
  have HS1 : Hid (Calls _ _ _ w6 _) := sameTexts_ok t6 t 6 6 6 (fun i => nowOf dur T i) w6 ((rt_image HBy.out r6 o6).congr (fun r hr => by
    rw [secOf_crash HLn.out hr HT64.out, if_neg (fun e => by have := e.1; omega)]
    by_cases hm : (r : Int) ∈ dks T 6
    · rw [if_pos hm]
    · rw [if_neg hm]
      cases hTr : T r with
      | none => unfold nowOf; rw [hTr]; rfl
      | some xs => exact absurd (mem_dks.2 ⟨r, hr, by rw [hTr]; rfl, rfl⟩) hm)) (HNow.out.keep k16 (fun _ e => e.elim)).rt (by omega)
  clear HIm HP25 r6 o6 HBy
  go_wp2_with fail
  refine HS1.out.mono ?_
  rintro e w' ⟨rfl, hw⟩
  obtain rfl := hw.symm
  clear HS1
  -- the second copy
  have HCr : Hid (Calls _ _ _ w6 _) := crash_ok HP26.out none 0 [] (-1) 0 (fun w' k' j hj => absurd hj (Nat.not_lt_zero _)) (fun z hz => by cases hz) (by rfl) (by simp)
  go_wp2_with fail
  refine HCr.out.mono ?_
  rintro e w7 ⟨rfl, k7, hP27⟩
  have HIm : Hid (Calls _ _ _ w7 _) := image_ok hP27
  have HBy : Hid (∀ x ∈ crashD dur T [] (-1) 0, x < 256) := hP27.byte
  have k17 : Kp (fun _ => False) w1 w7 := k16.trans k7 (fun x hx e => by omega)
  clear HCr hP27 HP26
  go_wp2_with fail
  refine HIm.out.mono ?_
  rintro e w8 ⟨t8, V8, rfl, k8, z8, r8, o8⟩
  have k18 := k17.trans k8 (fun _ _ e => e)
  have HS1 : Hid (∀ c, Calls _ _ #[_, .slice _ _ c] w8 _) := fun c => sameTexts_ok t8 t2 6 6 c (secOf dur) w8 ((rt_image HBy.out r8 o8).congr (fun r hr => by
    rw [secOf_crash HLn.out hr HT64.out, if_neg (fun e => by have := e.1; omega), if_neg (by simp)])) (HWv.out.keep k18 (fun _ e => e.elim)).rt (by omega)
  clear HIm r8 o8 HBy
  go_wp2_with fail
  refine (HS1.out _).mono ?_
  rintro e w' ⟨rfl, hw⟩
  obtain rfl := hw.symm
  clear HS1
  -- the plate itself
  have HSy : Hid (Calls _ _ _ w8 _) := sync_ok (HP.out.keep k18 id id id)
  have HNS : Hid (∀ i, i < 6 → nowOf (durAll dur T 6) (fun _ => none) i = nowOf dur T i) := fun i hi => nowOf_sync HP.out hi
  have HN8 : Hid _ := HNow.out.keep k18 (fun _ e => e.elim)
  go_wp2_with fail
  refine HSy.out.mono ?_
  rintro e w9 ⟨rfl, k9, hP9⟩
  have HIm : Hid (Calls _ _ _ w9 _) := image_ok hP9
  have HBy : Hid (∀ x ∈ durAll dur T 6, x < 256) := hP9.byte
  have HN9 : Hid _ := HN8.out.keep k9 (fun _ e => Or.inr e)
  have k19 : Kp (fun x => x = d ∨ x = m) w1 w9 := (k18.mono (fun _ _ e => e.elim)).trans k9 (fun _ _ e => e)
  clear HSy hP9 HN8
  go_wp2_with fail
  refine HIm.out.mono ?_
  rintro e w10 ⟨t10, V10, rfl, k10, z10, r10, o10⟩
  have HS1 : Hid (Calls _ _ _ w10 _) := sameTexts_ok t10 t 6 6 6 (fun i => nowOf dur T i) w10 ((rt_image HBy.out r10 o10).congr (fun r hr => HNS.out r hr)) (HN9.out.keep k10 (fun _ e => e.elim)).rt (by omega)
  clear HIm r10 o10 HBy
  go_wp2_with (go_at_call 19; refine HS1.out.mono ?_; rintro e w' ⟨rfl, hw⟩; obtain rfl := hw.symm)
  go_ret
  exact ⟨rfl, (k1.trans k19 (fun x hx e => by omega)).trans k10 (fun _ _ e => e.elim)⟩
theorem plateSettles_walk (v : Value) (L : Nat) (w : World) (h : Dos w v L) :
    Calls Try.prog 6 #[v] w fun e w' => e = .returned (.bool true) ∧ Kp (fun _ => False) w w' := plateSettles_walk0 v L w h
end Go.Proofs.Ytfaaikblkakiaaa
