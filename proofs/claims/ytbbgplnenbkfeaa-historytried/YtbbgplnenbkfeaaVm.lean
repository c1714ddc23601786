/- Whether a key's calls are right, by the document (laid by scripts/mkvm.py). -/
import Derived.Test.YtbbgplnenbkfeaaVl
namespace Go.Proofs.Ytbbgplnenbkfeaa
set_option linter.unusedVariables false
set_option linter.unusedSimpArgs false
open Go.RowKit Go.Deep Go.Maps

/-- a call of a kind that may have had its effect -/
def mayR (kd : Int) (r : Rc) : Bool := r.kind == kd && (!ansR r || r.says == 1)
def D4 (rs : List Rc) (i : Nat) (p : Int) (j : Nat) (d : Int) : Prop := fitsR rs i p j d = true
def D3 (rs : List Rc) (en : Int) (i : Nat) (p : Int) (j : Nat) : Prop := mayR 3 (rs.getD j rc0) = true ∧ ∃ d, max (rs.getD j rc0).fr p ≤ d ∧ d < spanR (rs.getD j rc0) en ∧ D4 rs i p j d
def P2 (rs : List Rc) (en : Int) (i : Nat) (p : Int) : Prop := fitsR rs i p (-1) 0 = true ∨ ∃ j, j < rs.length ∧ D3 rs en i p j
def P1 (rs : List Rc) (en : Int) (i : Nat) : Prop := mayR 1 (rs.getD i rc0) = true ∧ ∃ p, (rs.getD i rc0).fr ≤ p ∧ p < spanR (rs.getD i rc0) en ∧ P2 rs en i p
def KeyFit (rs : List Rc) (en : Int) : Prop := fitsR rs (-1) 0 (-1) 0 = true ∨ ∃ i, i < rs.length ∧ P1 rs en i
/-- what key answers -/
def KeyRes (rs : List Rc) (en : Int) (e : Ending) : Prop := ∃ b : Bool, e = .returned (.bool b) ∧ (b = true ↔ KeyFit rs en)
theorem spanR_le {w : World} {r : Rc} (h : r.ok w) {en : Int} (he : 0 ≤ en ∧ en ≤ 1000) : spanR r en ≤ 1000 := by
  unfold spanR
  split
  · exact h.t.2
  · exact he.2

set_option maxRecDepth 100000 in
set_option maxHeartbeats 12800000 in
theorem key_ok (Z : Nat → Prop) (q : Option Addr) (n cap : Nat) (rs : List Rc) (en : Int) (w : World) (h : Fl w Z q (rflat rs)) (hr : ∀ r ∈ rs, r.ok w) (hn : n = rs.length) (hn9 : n ≤ 900) (hen : 0 ≤ en ∧ en ≤ 1000) :
    Calls Try.prog 22 #[.slice q n cap, .int .i64 en] w fun e w' => KeyRes rs en e ∧ Kp (fun _ => False) w w' := by
  have HF : Hid (Fl w Z q (rflat rs)) := h
  have HE : Hid (∀ r ∈ rs, r.ok w) := hr
  have HN : Hid (n = rs.length ∧ n ≤ 900) := ⟨hn, hn9⟩
  have hn9' : (n : Int) ≤ 900 := by omega
  have HEn : Hid (0 ≤ en ∧ en ≤ 1000) := hen
  have HFi : Hid (∀ (u : World) (put p del d : Int), Kp (fun _ => False) w u → put < n → Calls Try.prog 36 #[.slice q n cap, .int .i64 put, .int .i64 p, .int .i64 del, .int .i64 d, .int .i64 en] u fun e w' => e = .returned (.bool (fitsR rs put p del d)) ∧ Kp (fun _ => False) u w') := fun u put p del d ku hp => fits_ok Z q n cap rs put p del d en u (h.keep ku (fun _ _ => id)) (fun r hr' => (hr r hr').keep ku) hn hn9 hp
  clear h hr hn hn9 hen
  go_enter Try.func22, Try.ntmps22
  obtain ⟨f0, hf0⟩ : ∃ b, b = fitsR rs (-1) 0 (-1) 0 := ⟨_, rfl⟩
  have HF0 : Hid (f0 = fitsR rs (-1) 0 (-1) 0) := hf0
  have HC0 : Hid (Calls _ _ _ w _) := HFi.out w (-1) 0 (-1) 0 (Kp.refl _ _) (by omega)
  rw [← hf0] at HC0
  clear hf0
  cases f0 with
  | true =>
    go_wp2_with (go_at_call 36; refine HC0.out.mono ?_; rintro e9 w1 ⟨rfl, k1⟩)
    go_ret
    exact ⟨⟨true, rfl, ⟨fun _ => Or.inl HF0.out.symm, fun _ => rfl⟩⟩, k1⟩
  | false =>
    go_wp2_with (go_at_call 36; refine HC0.out.mono ?_; rintro e9 w1 ⟨rfl, k1⟩; have HK1 : Hid (Kp (fun _ => False) w w1) := k1; clear k1)
    clear HC0
    go_loopg [20] n (fun gk iv wr => ∃ k : Nat, k ≤ n ∧ gk = n - k ∧ iv = .int .i64 k ∧ Hid (Kp (fun _ => False) w wr) ∧ Hid (∀ i, i < k → ¬ P1 rs en i))
    case atStart => exact ⟨0, Nat.zero_le _, rfl, rfl, HK1.out, fun i hi => absurd hi (Nat.not_lt_zero _)⟩
    case round =>
      obtain ⟨k, hk, rfl, rfl, HK, HT⟩ := hrel
      by_cases hlt : (k : Int) < (n : Int)
      · have hkl : k < rs.length := by have := HN.out; omega
        obtain ⟨r, hre⟩ : ∃ r, r = rs.getD k rc0 := ⟨_, rfl⟩
        have hrk : rs[k]? = some r := by rw [hre, List.getD_eq_getElem?_getD, List.getElem?_eq_getElem hkl]; rfl
        have hrok : r.ok w := HE.out r (List.mem_of_getElem? hrk)
        obtain ⟨b1, o1, rfl, _, _⟩ := HF.out (k * 7 + 0) _ (rflat_get rs k 0 r _ hrk rfl)
        have HRg : Hid (∀ u, Kp (fun _ => False) w u → u.rangeAt b1 (o1 + k * 7) (rcell r)) := fun u ku jq v hj => by
          obtain ⟨x1, x2, x3, _, x5⟩ := HF.out (k * 7 + jq) v (rflat_get rs k jq r v hrk hj)
          cases x3
          have := ku.cellv x5 id
          rw [← Nat.add_assoc] at this
          exact this
        have HO1 : Hid ((rcell r).toArray.all (·.oneCell') = true) := all_oneCell_toArray hrok.one
        have HRe : Hid (r = rs.getD k rc0) := hre
        have HRk : Hid (r.ok w) := hrok
        have HSp : Hid (∀ u, Calls _ _ _ u _) := span_ok r en
        have HAn : Hid (∀ u, Calls _ _ _ u _) := answered_ok r
        have HKi : Hid (wrap64 ((k : Int) + 1) = ((k + 1 : Nat) : Int)) := wrapK (by omega)
        obtain ⟨an, han⟩ : ∃ b, b = ansR r := ⟨_, rfl⟩
        have HAe : Hid (an = ansR r) := han
        rw [← han] at HAn
        obtain ⟨sp, hsp⟩ : ∃ b, b = spanR r en := ⟨_, rfl⟩
        have HSe : Hid (sp = spanR r en) := hsp
        rw [← hsp] at HSp
        obtain ⟨kd, hkd⟩ : ∃ z, z = r.kind := ⟨_, rfl⟩
        have HKd : Hid (kd = r.kind) := hkd
        obtain ⟨sy, hsy⟩ : ∃ z, z = r.says := ⟨_, rfl⟩
        have HSy : Hid (sy = r.says) := hsy
        obtain ⟨fr, hfr⟩ : ∃ z, z = r.fr := ⟨_, rfl⟩
        have HFr : Hid (fr = r.fr ∧ 0 ≤ fr ∧ fr ≤ 1000) := ⟨hfr, by rw [hfr]; exact hrok.f.1, by rw [hfr]; exact hrok.f.2⟩
        rw [← hfr] at HSp
        have HSl : Hid (sp ≤ 1000) := by rw [hsp]; exact spanR_le hrok HEn.out
        obtain ⟨xa, hxa⟩ : ∃ xa, xa = (rcell r).toArray := ⟨_, rfl⟩
        have HXa : Hid (xa = (rcell r).toArray) := hxa
        rw [← hxa] at HSp HAn HO1
        clear hkl hre hrk hrok han hsp hkd hsy hfr hxa
        obtain ⟨ds, hd1, hd2⟩ := dsRc
        have HM1 : Hid (mayR 1 r = (kd == 1 && (!an || sy == 1))) := by show _ = _; unfold mayR; rw [← HKd.out, ← HSy.out, ← HAe.out]
        go_upto_region 6 with (first
          | (refine wpList_load_mid rfl 51 _ rfl b1 (o1 + k * 7) rfl _ ds (HRg.out _ HK.out) hd1 hd2 (by rw [szRc]; rfl) ?_; rw [← HXa.out])
          | (refine wpList_store_all rfl 51 _ _ rfl 7 wr.heap.size (rcell rc0) (rcell r) rfl (by rw [← HXa.out]; rfl) (by exact Lv.new wr _ _) szRc rfl rfl (by rw [← HXa.out]; exact HO1.out) ?_; intro ua hl1 k1; have HKu : Hid (Kp (fun _ => False) w ua) := HK.out.trans (((Kp.refl (fun _ => False) wr).alloc _).trans k1 (fun b hb e => by omega)) (fun _ _ e => e); have HLu : Hid (Lv ua wr.heap.size (rcell r)) := hl1; have c2 : ua.cell? ⟨wr.heap.size, 2, none⟩ = some (.int .i64 kd) := by rw [HKd.out]; exact hl1.cell (j := 2) rfl
             have c3 : ua.cell? ⟨wr.heap.size, 3, none⟩ = some (.int .i64 sy) := by rw [HSy.out]; exact hl1.cell (j := 3) rfl
             clear hl1 k1)
          | fail)
        simp only [Act.put]
        go_cut [36] (fun v wz => v = .bool (!(mayR 1 r)) ∧ Hid (Kp (fun _ => False) w wz) ∧ Hid (Lv wz wr.heap.size (rcell r)))
        case first =>
          as_aux_lemma =>
            by_cases qk : kd = 1
            · subst qk
              cases an with
              | false =>
                have HMt : Hid (mayR 1 r = true) := by show _ = _; rw [HM1.out]; rfl
                go_wp2_with (first
                  | (refine wpList_ldg (by first | rfl | go_simp) 51 _ rfl wr.heap.size 0 rfl _ ds HLu.out.r hd1 hd2 (by rw [szRc]; rfl) ?_; rw [← HXa.out]) | (go_at_call 37; refine (HAn.out _).mono ?_; rintro e9 ub ⟨rfl, k2⟩; have HKv : Hid (Kp (fun _ => False) w ub) := HKu.out.trans k2 (fun _ _ e => e); have HLv : Hid (Lv ub wr.heap.size (rcell r)) := HLu.out.keep k2 id; replace c2 := k2.cellv c2 id; replace c3 := k2.cellv c3 id; clear k2 HLu HKu; have HLu := HLv; have HKu := HKv; clear HLv HKv)
                  | fail)
                go_meet
                exact ⟨by rw [HMt.out]; rfl, HKu.out, HLu.out⟩
              | true =>
                by_cases qs : sy = 1
                · subst qs
                  have HMt : Hid (mayR 1 r = true) := by show _ = _; rw [HM1.out]; rfl
                  go_wp2_with (first
                    | (refine wpList_ldg (by first | rfl | go_simp) 51 _ rfl wr.heap.size 0 rfl _ ds HLu.out.r hd1 hd2 (by rw [szRc]; rfl) ?_; rw [← HXa.out]) | (go_at_call 37; refine (HAn.out _).mono ?_; rintro e9 ub ⟨rfl, k2⟩; have HKv : Hid (Kp (fun _ => False) w ub) := HKu.out.trans k2 (fun _ _ e => e); have HLv : Hid (Lv ub wr.heap.size (rcell r)) := HLu.out.keep k2 id; replace c2 := k2.cellv c2 id; replace c3 := k2.cellv c3 id; clear k2 HLu HKu; have HLu := HLv; have HKu := HKv; clear HLv HKv)
                    | fail)
                  go_meet
                  exact ⟨by rw [HMt.out]; rfl, HKu.out, HLu.out⟩
                · have qs' : (sy != 1) = true := by simpa using qs
                  have HMf : Hid (mayR 1 r = false) := by show _ = _; rw [HM1.out]; simp [qs]
                  go_wp2_with (first
                    | (refine wpList_ldg (by first | rfl | go_simp) 51 _ rfl wr.heap.size 0 rfl _ ds HLu.out.r hd1 hd2 (by rw [szRc]; rfl) ?_; rw [← HXa.out]) | (go_at_call 37; refine (HAn.out _).mono ?_; rintro e9 ub ⟨rfl, k2⟩; have HKv : Hid (Kp (fun _ => False) w ub) := HKu.out.trans k2 (fun _ _ e => e); have HLv : Hid (Lv ub wr.heap.size (rcell r)) := HLu.out.keep k2 id; replace c2 := k2.cellv c2 id; replace c3 := k2.cellv c3 id; clear k2 HLu HKu; have HLu := HLv; have HKu := HKv; clear HLv HKv)
                    | fail)
                  go_meet
                  exact ⟨by rw [HMf.out]; rfl, HKu.out, HLu.out⟩
            · have qk' : (kd != 1) = true := by simpa using qk
              have HMf : Hid (mayR 1 r = false) := by show _ = _; rw [HM1.out]; simp [qk]
              go_wp2
              go_meet
              exact ⟨by rw [HMf.out]; rfl, HKu.out, HLu.out⟩
        case rest =>
          obtain ⟨rfl, HKv, HLv⟩ := hcut
          clear HKu HLu c2 c3
          have HKu := HKv
          have HLu := HLv
          clear HKv HLv
          cases hm : mayR 1 r with
          | true =>
            have HMt : Hid (mayR 1 r = true) := hm
            clear hm
            go_wp2_with (first
              | (refine wpList_ldg (by first | rfl | go_simp) 51 _ rfl wr.heap.size 0 rfl _ ds HLu.out.r hd1 hd2 (by rw [szRc]; rfl) ?_; rw [← HXa.out])
              | (go_at_call 38; refine (HSp.out _).mono ?_; rintro e9 uc ⟨rfl, k3⟩; have HKs1 : Hid (Kp (fun _ => False) w uc) := HKu.out.trans k3 (fun _ _ e => e); clear k3 HLu HKu)
              | fail)
            have HMt1 := HMt
            clear HMt
            go_loopg [9] (sp - fr).toNat (fun gk pvv wz => ∃ pv : Int, gk = (sp - pv).toNat ∧ pvv = .int .i64 pv ∧ Hid (fr ≤ pv ∧ pv ≤ 1001) ∧ Hid (Kp (fun _ => False) w wz) ∧ Hid (∀ p', fr ≤ p' → p' < pv → ¬ P2 rs en k p'))
            case atStart => exact ⟨fr, rfl, rfl, ⟨Int.le_refl _, by have := HFr.out; omega⟩, HKs1.out, fun p' h1 h2 => by omega⟩
            case round =>
              obtain ⟨pv, rfl, rfl, HPv', HKy, HTp⟩ := hrel
              have HPv : Hid (fr ≤ pv ∧ pv ≤ 1001) := HPv'.out
              by_cases hps : pv < sp
              · have HPs : Hid (pv < sp) := hps
                have hpb : -1000 ≤ pv ∧ pv ≤ 1000 := by have := HPv.out; have := HFr.out; have := HSl.out; omega
                have HPv : Hid (fr ≤ pv ∧ 0 ≤ pv ∧ pv ≤ 1000) := by
                  have h1 := HPv'.out
                  have h2 := HFr.out
                  exact ⟨h1.1, by omega, hpb.2⟩
                have HCp : Hid (Calls _ _ _ _ _) := HFi.out _ (k : Int) pv (-1) 0 HKy.out (by omega)
                obtain ⟨f3, hf3⟩ : ∃ b, b = fitsR rs k pv (-1) 0 := ⟨_, rfl⟩
                have HF3 : Hid (f3 = fitsR rs k pv (-1) 0) := hf3
                rw [← hf3] at HCp
                clear hf3
                cases f3 with
                | true =>
                  go_wp2_with (go_at_call 36; refine HCp.out.mono ?_; rintro e9 w3 ⟨rfl, k3⟩)
                  go_ret
                  have HI : Hid (true = true ↔ KeyFit rs en) := ⟨fun _ => Or.inr ⟨k, by have := HN.out; omega, by rw [← HRe.out]; exact HMt1.out, pv, by rw [← HRe.out, ← HFr.out.1]; exact HPv.out.1, by rw [← HRe.out, ← HSe.out]; exact HPs.out, Or.inl HF3.out.symm⟩, fun _ => rfl⟩
                  exact ⟨⟨true, rfl, HI.out⟩, HKy.out.trans k3 (fun _ _ e => e)⟩
                | false =>
                  go_wp2_with (go_at_call 36; refine HCp.out.mono ?_; rintro e9 w3 ⟨rfl, k3⟩; have HK3 : Hid (Kp (fun _ => False) w w3) := HKy.out.trans k3 (fun _ _ e => e); clear k3)
                  clear HCp
                  go_loopg [56] n (fun gk iv wz => ∃ j : Nat, j ≤ n ∧ gk = n - j ∧ iv = .int .i64 j ∧ Hid (Kp (fun _ => False) w wz) ∧ Hid (∀ j', j' < j → ¬ D3 rs en k pv j'))
                  case atStart => exact ⟨0, Nat.zero_le _, rfl, rfl, HK3.out, fun i hi => absurd hi (Nat.not_lt_zero _)⟩
                  case round =>
                    obtain ⟨j, hj, rfl, rfl, HKj, HTj⟩ := hrel
                    by_cases hjn : (j : Int) < (n : Int)
                    · have hkl : j < rs.length := by have := HN.out; omega
                      obtain ⟨r2, hre⟩ : ∃ r, r = rs.getD j rc0 := ⟨_, rfl⟩
                      have hrk : rs[j]? = some r2 := by rw [hre, List.getD_eq_getElem?_getD, List.getElem?_eq_getElem hkl]; rfl
                      have hrok : r2.ok w := HE.out r2 (List.mem_of_getElem? hrk)
                      have HRg2 : Hid (∀ u, Kp (fun _ => False) w u → u.rangeAt b1 (o1 + j * 7) (rcell r2)) := fun u ku jq v hj => by
                        obtain ⟨x1, x2, x3, _, x5⟩ := HF.out (j * 7 + jq) v (rflat_get rs j jq r2 v hrk hj)
                        cases x3
                        have := ku.cellv x5 id
                        rw [← Nat.add_assoc] at this
                        exact this
                      have HO12 : Hid ((rcell r2).toArray.all (·.oneCell') = true) := all_oneCell_toArray hrok.one
                      have HRe2 : Hid (r2 = rs.getD j rc0) := hre
                      have HRk2 : Hid (r2.ok w) := hrok
                      have HSp2 : Hid (∀ u, Calls _ _ _ u _) := span_ok r2 en
                      have HAn2 : Hid (∀ u, Calls _ _ _ u _) := answered_ok r2
                      have HKi2 : Hid (wrap64 ((j : Int) + 1) = ((j + 1 : Nat) : Int)) := wrapK (by omega)
                      obtain ⟨an2, han⟩ : ∃ b, b = ansR r2 := ⟨_, rfl⟩
                      have HAe2 : Hid (an2 = ansR r2) := han
                      rw [← han] at HAn2
                      obtain ⟨sp2, hsp⟩ : ∃ b, b = spanR r2 en := ⟨_, rfl⟩
                      have HSe2 : Hid (sp2 = spanR r2 en) := hsp
                      rw [← hsp] at HSp2
                      obtain ⟨kd2, hkd⟩ : ∃ z, z = r2.kind := ⟨_, rfl⟩
                      have HKd2 : Hid (kd2 = r2.kind) := hkd
                      obtain ⟨sy2, hsy⟩ : ∃ z, z = r2.says := ⟨_, rfl⟩
                      have HSy2 : Hid (sy2 = r2.says) := hsy
                      obtain ⟨fr2, hfr⟩ : ∃ z, z = r2.fr := ⟨_, rfl⟩
                      have HFr2 : Hid (fr2 = r2.fr ∧ 0 ≤ fr2 ∧ fr2 ≤ 1000) := ⟨hfr, by rw [hfr]; exact hrok.f.1, by rw [hfr]; exact hrok.f.2⟩
                      rw [← hfr] at HSp2
                      have HSl2 : Hid (sp2 ≤ 1000) := by rw [hsp]; exact spanR_le hrok HEn.out
                      obtain ⟨xa2, hxa⟩ : ∃ xa, xa = (rcell r2).toArray := ⟨_, rfl⟩
                      have HXa2 : Hid (xa2 = (rcell r2).toArray) := hxa
                      rw [← hxa] at HSp2 HAn2 HO12
                      clear hkl hre hrk hrok han hsp hkd hsy hfr hxa
                      obtain ⟨ds2, hd12, hd22⟩ := dsRc
                      have HM2 : Hid (mayR 3 r2 = (kd2 == 3 && (!an2 || sy2 == 1))) := by show _ = _; unfold mayR; rw [← HKd2.out, ← HSy2.out, ← HAe2.out]
                      go_upto_region 16 with (first
                        | (refine wpList_load_mid rfl 51 _ rfl b1 (o1 + j * 7) rfl _ ds2 (HRg2.out _ HKj.out) hd12 hd22 (by rw [szRc]; rfl) ?_; rw [← HXa2.out])
                        | (refine wpList_store_all rfl 51 _ _ rfl 7 wr.heap.size (rcell rc0) (rcell r2) rfl (by rw [← HXa2.out]; rfl) (by exact Lv.new wr _ _) szRc rfl rfl (by rw [← HXa2.out]; exact HO12.out) ?_; intro ua2 hl1 k1; have HKu2 : Hid (Kp (fun _ => False) w ua2) := HKj.out.trans (((Kp.refl (fun _ => False) wr).alloc _).trans k1 (fun b hb e => by omega)) (fun _ _ e => e); have HLu2 : Hid (Lv ua2 wr.heap.size (rcell r2)) := hl1; have c22 : ua2.cell? ⟨wr.heap.size, 2, none⟩ = some (.int .i64 kd2) := by rw [HKd2.out]; exact hl1.cell (j := 2) rfl
                           have c32 : ua2.cell? ⟨wr.heap.size, 3, none⟩ = some (.int .i64 sy2) := by rw [HSy2.out]; exact hl1.cell (j := 3) rfl
                           clear hl1 k1)
                        | fail)
                      simp only [Act.put]
                      go_cut [72] (fun v wz => v = .bool (!(mayR 3 r2)) ∧ Hid (Kp (fun _ => False) w wz) ∧ Hid (Lv wz wr.heap.size (rcell r2)))
                      case first =>
                        as_aux_lemma =>
                          by_cases qk : kd2 = 3
                          · subst qk
                            cases an2 with
                            | false =>
                              have HMt : Hid (mayR 3 r2 = true) := by show _ = _; rw [HM2.out]; rfl
                              go_wp2_with (first
                                | (refine wpList_ldg (by first | rfl | go_simp) 51 _ rfl wr.heap.size 0 rfl _ ds2 HLu2.out.r hd12 hd22 (by rw [szRc]; rfl) ?_; rw [← HXa2.out]) | (go_at_call 37; refine (HAn2.out _).mono ?_; rintro e9 ub2 ⟨rfl, k2⟩; have HKv2 : Hid (Kp (fun _ => False) w ub2) := HKu2.out.trans k2 (fun _ _ e => e); have HLv2 : Hid (Lv ub2 wr.heap.size (rcell r2)) := HLu2.out.keep k2 id; replace c22 := k2.cellv c22 id; replace c32 := k2.cellv c32 id; clear k2 HLu2 HKu2; have HLu2 := HLv2; have HKu2 := HKv2; clear HLv2 HKv2)
                                | fail)
                              go_meet
                              exact ⟨by rw [HMt.out]; rfl, HKu2.out, HLu2.out⟩
                            | true =>
                              by_cases qs : sy2 = 1
                              · subst qs
                                have HMt : Hid (mayR 3 r2 = true) := by show _ = _; rw [HM2.out]; rfl
                                go_wp2_with (first
                                  | (refine wpList_ldg (by first | rfl | go_simp) 51 _ rfl wr.heap.size 0 rfl _ ds2 HLu2.out.r hd12 hd22 (by rw [szRc]; rfl) ?_; rw [← HXa2.out]) | (go_at_call 37; refine (HAn2.out _).mono ?_; rintro e9 ub2 ⟨rfl, k2⟩; have HKv2 : Hid (Kp (fun _ => False) w ub2) := HKu2.out.trans k2 (fun _ _ e => e); have HLv2 : Hid (Lv ub2 wr.heap.size (rcell r2)) := HLu2.out.keep k2 id; replace c22 := k2.cellv c22 id; replace c32 := k2.cellv c32 id; clear k2 HLu2 HKu2; have HLu2 := HLv2; have HKu2 := HKv2; clear HLv2 HKv2)
                                  | fail)
                                go_meet
                                exact ⟨by rw [HMt.out]; rfl, HKu2.out, HLu2.out⟩
                              · have qs' : (sy2 != 1) = true := by simpa using qs
                                have HMf : Hid (mayR 3 r2 = false) := by show _ = _; rw [HM2.out]; simp [qs]
                                go_wp2_with (first
                                  | (refine wpList_ldg (by first | rfl | go_simp) 51 _ rfl wr.heap.size 0 rfl _ ds2 HLu2.out.r hd12 hd22 (by rw [szRc]; rfl) ?_; rw [← HXa2.out]) | (go_at_call 37; refine (HAn2.out _).mono ?_; rintro e9 ub2 ⟨rfl, k2⟩; have HKv2 : Hid (Kp (fun _ => False) w ub2) := HKu2.out.trans k2 (fun _ _ e => e); have HLv2 : Hid (Lv ub2 wr.heap.size (rcell r2)) := HLu2.out.keep k2 id; replace c22 := k2.cellv c22 id; replace c32 := k2.cellv c32 id; clear k2 HLu2 HKu2; have HLu2 := HLv2; have HKu2 := HKv2; clear HLv2 HKv2)
                                  | fail)
                                go_meet
                                exact ⟨by rw [HMf.out]; rfl, HKu2.out, HLu2.out⟩
                          · have qk' : (kd2 != 3) = true := by simpa using qk
                            have HMf : Hid (mayR 3 r2 = false) := by show _ = _; rw [HM2.out]; simp [qk]
                            go_wp2
                            go_meet
                            exact ⟨by rw [HMf.out]; rfl, HKu2.out, HLu2.out⟩
                      case rest =>
                        obtain ⟨rfl, HKv2, HLv2⟩ := hcut
                        clear HKu2 HLu2 c22 c32
                        have HKu2 := HKv2
                        have HLu2 := HLv2
                        clear HKv2 HLv2
                        cases hm2 : mayR 3 r2 with
                        | true =>
                          have HMt : Hid (mayR 3 r2 = true) := hm2
                          clear hm2
                          go_wp2_with (first
                            | (refine wpList_ldg (by first | rfl | go_simp) 51 _ rfl wr.heap.size 0 rfl _ ds2 HLu2.out.r hd12 hd22 (by rw [szRc]; rfl) ?_; rw [← HXa2.out])
                            | (go_at_call 38; refine (HSp2.out _).mono ?_; rintro e9 uc2 ⟨rfl, k3⟩; have HKs2 : Hid (Kp (fun _ => False) w uc2) := HKu2.out.trans k3 (fun _ _ e => e); clear k3 HLu2 HKu2)
                            | fail)
                          obtain ⟨d0, hd0⟩ : ∃ z, z = max fr2 pv := ⟨_, rfl⟩
                          have HD0 : Hid (d0 = max fr2 pv ∧ 0 ≤ d0 ∧ d0 ≤ 1000) := ⟨hd0, by have := HFr2.out; have := HPv.out; omega, by have := HFr2.out; have := HPv.out; omega⟩
                          try rw [← hd0]
                          clear hd0
                          go_loopg [14] (sp2 - d0).toNat (fun gk dv wz => ∃ d : Int, gk = (sp2 - d).toNat ∧ dv = .int .i64 d ∧ Hid (d0 ≤ d ∧ d ≤ 1001) ∧ Hid (Kp (fun _ => False) w wz) ∧ Hid (∀ d', d0 ≤ d' → d' < d → ¬ D4 rs k pv j d'))
                          case atStart => exact ⟨d0, rfl, rfl, ⟨Int.le_refl _, by have := HD0.out; omega⟩, HKs2.out, fun d' h1 h2 => by omega⟩
                          case round =>
                            obtain ⟨d, rfl, rfl, HDb, HKz, HTd⟩ := hrel
                            by_cases hdl : d < sp2
                            · have HCd : Hid (Calls _ _ _ _ _) := HFi.out _ (k : Int) pv (j : Int) d HKz.out (by omega)
                              obtain ⟨f4, hf4⟩ : ∃ b, b = fitsR rs k pv j d := ⟨_, rfl⟩
                              have HF4 : Hid (f4 = fitsR rs k pv j d) := hf4
                              rw [← hf4] at HCd
                              clear hf4
                              have hdb : -1000 ≤ d ∧ d ≤ 1001 := by have := HDb.out; have := HD0.out; omega
                              cases f4 with
                              | true =>
                                go_wp2_with (go_at_call 36; refine HCd.out.mono ?_; rintro e9 w4 ⟨rfl, k4⟩)
                                go_ret
                                have HI : Hid (true = true ↔ KeyFit rs en) := ⟨fun _ => Or.inr ⟨k, by have := HN.out; omega, by rw [← HRe.out]; exact HMt1.out, pv, by rw [← HRe.out, ← HFr.out.1]; exact HPv.out.1, by rw [← HRe.out, ← HSe.out]; exact HPs.out, Or.inr ⟨j, by have := HN.out; omega, by rw [← HRe2.out]; exact HMt.out, d, by rw [← HRe2.out, ← HFr2.out.1, ← HD0.out.1]; exact HDb.out.1, by rw [← HRe2.out, ← HSe2.out]; exact hdl, HF4.out.symm⟩⟩, fun _ => rfl⟩
                                exact ⟨⟨true, rfl, HI.out⟩, HKz.out.trans k4 (fun _ _ e => e)⟩
                              | false =>
                                go_wp2_with (go_at_call 36; refine HCd.out.mono ?_; rintro e9 w4 ⟨rfl, k4⟩; have HK4 : Hid (Kp (fun _ => False) w w4) := HKz.out.trans k4 (fun _ _ e => e); clear k4)
                                go_roundg ((sp2 - (d + 1)).toNat)
                                case rel =>
                                  refine ⟨d + 1, rfl, by first | rfl | go_num, ⟨by have := HDb.out; omega, by have := HSl2.out; omega⟩, HK4.out, fun d' h1 h2 => ?_⟩
                                  by_cases e : d' = d
                                  · subst e
                                    unfold D4
                                    rw [← HF4.out]
                                    simp
                                  · exact HTd.out d' h1 (by omega)
                                case measure => omega
                            · have HN3 : Hid (¬ D3 rs en k pv j) := by
                                rintro ⟨_, d', h1, h2, h3⟩
                                rw [← HRe2.out, ← HFr2.out.1, ← HD0.out.1] at h1
                                rw [← HRe2.out, ← HSe2.out] at h2
                                exact HTd.out d' h1 (by omega) h3
                              go_wp2
                              go_roundg (n - (j + 1))
                              case rel =>
                                refine ⟨j + 1, by omega, rfl, by first | rw [HKi2.out] | rfl | go_num, HKz.out, fun j' hj' => ?_⟩
                                by_cases e : j' = j
                                · subst e; exact HN3.out
                                · exact HTj.out j' (by omega)
                              case measure => omega
                        | false =>
                          have HMf : Hid (mayR 3 r2 = false) := hm2
                          clear hm2
                          have HN3 : Hid (¬ D3 rs en k pv j) := by
                            rintro ⟨h1, _⟩
                            rw [← HRe2.out, HMf.out] at h1
                            cases h1
                          go_wp2
                          have HKe : Hid (Kp (fun _ => False) w _) := HKu2.out
                          go_roundg (n - (j + 1))
                          case rel =>
                            refine ⟨j + 1, by omega, rfl, by first | rw [HKi2.out] | rfl | go_num, HKe.out, fun j' hj' => ?_⟩
                            by_cases e : j' = j
                            · subst e; exact HN3.out
                            · exact HTj.out j' (by omega)
                          case measure => omega
                    · have HN2 : Hid (¬ P2 rs en k pv) := by
                        rintro (h | ⟨j', hj', h⟩)
                        · rw [← HF3.out] at h; cases h
                        · exact HTj.out j' (by have := HN.out; omega) h
                      go_wp2
                      go_roundg ((sp - (pv + 1)).toNat)
                      case rel =>
                        refine ⟨pv + 1, rfl, by first | rfl | go_num, ⟨by have := HPv.out; omega, by have := HSl.out; have := HPs.out; omega⟩, HKj.out, fun p' h1 h2 => ?_⟩
                        by_cases e : p' = pv
                        · subst e; exact HN2.out
                        · exact HTp.out p' h1 (by omega)
                      case measure => omega
              · have HN1 : Hid (¬ P1 rs en k) := by
                  rintro ⟨_, p', h1, h2, h3⟩
                  rw [← HRe.out, ← HFr.out.1] at h1
                  rw [← HRe.out, ← HSe.out] at h2
                  exact HTp.out p' h1 (by omega) h3
                go_wp2
                go_roundg (n - (k + 1))
                case rel =>
                  refine ⟨k + 1, by omega, rfl, by first | rw [HKi.out] | rfl | go_num, HKy.out, fun i hi => ?_⟩
                  by_cases e : i = k
                  · subst e; exact HN1.out
                  · exact HT.out i (by omega)
                case measure => omega
          | false =>
            have HMf : Hid (mayR 1 r = false) := hm
            clear hm
            have HN1 : Hid (¬ P1 rs en k) := by
              rintro ⟨h1, _⟩
              rw [← HRe.out, HMf.out] at h1
              cases h1
            go_wp2
            have HKe : Hid (Kp (fun _ => False) w _) := HKu.out
            go_roundg (n - (k + 1))
            case rel =>
              refine ⟨k + 1, by omega, rfl, by first | rw [HKi.out] | rfl | go_num, HKe.out, fun i hi => ?_⟩
              by_cases e : i = k
              · subst e; exact HN1.out
              · exact HT.out i (by omega)
            case measure => omega
      · have HI : Hid (false = true ↔ KeyFit rs en) := by
          refine ⟨fun h => (by cases h), fun h => ?_⟩
          rcases h with h | ⟨i, hi, h⟩
          · rw [← HF0.out] at h; cases h
          · exact absurd h (HT.out i (by have := HN.out; omega))
        go_wp2
        go_ret
        exact ⟨⟨false, rfl, HI.out⟩, HK.out⟩
end Go.Proofs.Ytbbgplnenbkfeaa
