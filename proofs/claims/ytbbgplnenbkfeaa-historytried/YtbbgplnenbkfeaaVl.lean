/- Whether times fit a key's calls, by the document (laid by scripts/mkvl.py). -/
import Derived.Test.YtbbgplnenbkfeaaVk
import Derived.Deep.DeepCutAuto
namespace Go.Proofs.Ytbbgplnenbkfeaa
set_option linter.unusedVariables false
set_option linter.unusedSimpArgs false
open Go.RowKit Go.Deep Go.Maps

/-- one call -/
def fit1 (rs : List Rc) (put p del d : Int) (i : Nat) (r : Rc) : Bool :=
  if !ansR r then true
  else if decide ((i : Int) = put) || decide ((i : Int) = del) then true
  else if r.kind == 1 then r.says == 2 && decide (0 ≤ put) && decide (p < r.to)
  else if r.says == 1 then r.kind == 2 && decide (0 ≤ put) && decide (p < r.to) && !(decide (0 ≤ del) && decide (d < r.fr)) && decide (r.g.xs = (rs.getD put.toNat rc0).pb.xs)
  else (decide (put < 0) || decide (r.fr ≤ p)) || (decide (0 ≤ del) && decide (d < r.to))
def fitsR (rs : List Rc) (put p del d : Int) : Bool := (List.range rs.length).all (fun i => fit1 rs put p del d i (rs.getD i rc0))

set_option maxRecDepth 100000 in
set_option maxHeartbeats 6400000 in
theorem fits_ok (Z : Nat → Prop) (q : Option Addr) (n cap : Nat) (rs : List Rc) (put p del d en : Int) (w : World) (h : Fl w Z q (rflat rs)) (hr : ∀ r ∈ rs, r.ok w) (hn : n = rs.length) (hn9 : n ≤ 900) (hp : put < n) :
    Calls Try.prog 36 #[.slice q n cap, .int .i64 put, .int .i64 p, .int .i64 del, .int .i64 d, .int .i64 en] w fun e w' => e = .returned (.bool (fitsR rs put p del d)) ∧ Kp (fun _ => False) w w' := by
  have HF : Hid (Fl w Z q (rflat rs)) := h
  have HE : Hid (∀ r ∈ rs, r.ok w) := hr
  have HN : Hid (n = rs.length) := hn
  have hn9' : (n : Int) ≤ 900 := by omega
  obtain ⟨F, hF⟩ : ∃ F, F = fitsR rs put p del d := ⟨_, rfl⟩
  have HFe : Hid (F = fitsR rs put p del d) := hF
  rw [← hF]
  have HP : Hid (put < n) := hp
  clear h hr hn hn9 hF hp
  go_enter Try.func36, Try.ntmps36
  go_wp2
  go_loopg [21] n (fun gk iv wr => ∃ k : Nat, k ≤ n ∧ gk = n - k ∧ iv = .int .i64 k ∧ Hid (Kp (fun _ => False) w wr) ∧ Hid (∀ i, i < k → fit1 rs put p del d i (rs.getD i rc0) = true))
  case atStart => exact ⟨0, Nat.zero_le _, rfl, rfl, Kp.refl _ _, fun i hi => absurd hi (Nat.not_lt_zero _)⟩
  case round =>
    obtain ⟨k, hk, rfl, rfl, HK, HT⟩ := hrel
    by_cases hlt : (k : Int) < (n : Int)
    · have hkl : k < rs.length := by have := HN.out; omega
      obtain ⟨r, hre⟩ : ∃ r, r = rs.getD k rc0 := ⟨_, rfl⟩
      have hrk : rs[k]? = some r := by rw [hre, List.getD_eq_getElem?_getD, List.getElem?_eq_getElem hkl]; rfl
      have hrm : r ∈ rs := List.mem_of_getElem? hrk
      have hrok : r.ok w := HE.out r hrm
      obtain ⟨b1, o1, rfl, _, _⟩ := HF.out (k * 7 + 0) _ (rflat_get rs k 0 r _ hrk rfl)
      have HR1 : Hid (wr.rangeAt b1 (o1 + k * 7) (rcell r)) := fun j u hj => by
        obtain ⟨x1, x2, x3, _, x5⟩ := HF.out (k * 7 + j) u (rflat_get rs k j r u hrk hj)
        cases x3
        have := HK.out.cellv x5 id
        rw [← Nat.add_assoc] at this
        exact this
      have HO1 : Hid ((rcell r).toArray.all (·.oneCell') = true) := by
        show _ = _
        exact all_oneCell_toArray hrok.one
      have HRe : Hid (r = rs.getD k rc0) := hre
      have HRok : Hid (r.ok w) := hrok
      have HSp : Hid (∀ u, Calls _ _ _ u _) := span_ok r en
      have HAn : Hid (∀ u, Calls _ _ _ u _) := answered_ok r
      have HK1' : Hid (wrap64 ((k : Int) + 1) = ((k + 1 : Nat) : Int)) := wrapK (by omega)
      obtain ⟨ds, hd1, hd2⟩ := dsRc
      obtain ⟨xa, hxa⟩ : ∃ xa, xa = (rcell r).toArray := ⟨_, rfl⟩
      have HXa : Hid (xa = (rcell r).toArray) := hxa
      rw [← hxa] at HSp HAn HO1
      obtain ⟨an, han⟩ : ∃ b, b = ansR r := ⟨_, rfl⟩
      have HAe : Hid (an = ansR r) := han
      rw [← han] at HAn
      obtain ⟨sp, hsp⟩ : ∃ b, b = spanR r en := ⟨_, rfl⟩
      have HSe : Hid (sp = spanR r en) := hsp
      rw [← hsp] at HSp
      clear hkl hre hrk hrm hrok hxa han hsp
      cases an with
      | false =>
        go_wp2_with (first
          | (refine wpList_load_mid rfl 51 _ rfl b1 (o1 + k * 7) rfl _ ds HR1.out hd1 hd2 (by rw [szRc]; rfl) ?_; rw [← HXa.out])
          | (refine wpList_store_all rfl 51 _ _ rfl 7 wr.heap.size (rcell rc0) (rcell r) rfl (by rw [← HXa.out]; rfl) (by exact Lv.new wr _ _) szRc rfl rfl (by rw [← HXa.out]; exact HO1.out) ?_; intro u1 hl1 k1; have HKu : Hid (Kp (fun _ => False) wr u1) := ((Kp.refl (fun _ => False) wr).alloc _).trans k1 (fun b hb e => by omega); have HLu : Hid (Lv u1 wr.heap.size (rcell r)) := hl1; clear hl1 k1)
          | (refine wpList_load_all rfl 51 _ rfl 7 wr.heap.size (rcell r) rfl HLu.out dsRc szRc rfl ?_; rw [← HXa.out])
          | (go_at_call 38; refine (HSp.out _).mono ?_; rintro e9 u2 ⟨rfl, k2⟩; have HKu2 : Hid (Kp (fun _ => False) wr u2) := HKu.out.trans k2 (fun _ _ e => e); have HLu2 : Hid (Lv u2 wr.heap.size (rcell r)) := HLu.out.keep k2 id; clear HLu HKu k2; have HLu := HLu2; clear HLu2)
          | (go_at_call 37; refine (HAn.out _).mono ?_; rintro e9 u3 ⟨rfl, k3⟩; have HKu3 : Hid (Kp (fun _ => False) wr u3) := HKu2.out.trans k3 (fun _ _ e => e); have HLu3 : Hid (Lv u3 wr.heap.size (rcell r)) := HLu.out.keep k3 id; clear HLu HKu2 k3))
        go_roundg (n - (k + 1))
        case rel =>
          refine ⟨k + 1, by omega, rfl, by first | rw [HK1'.out] | rfl | go_num, HK.out.trans HKu3.out (fun _ _ e => e), fun i hi => ?_⟩
          by_cases e : i = k
          · subst e
            rw [← HRe.out]
            unfold fit1
            rw [← HAe.out]
            rfl
          · exact HT.out i (by omega)
        case measure => omega
      | true =>
        go_upto_region 6 with (first
          | (refine wpList_load_mid rfl 51 _ rfl b1 (o1 + k * 7) rfl _ ds HR1.out hd1 hd2 (by rw [szRc]; rfl) ?_; rw [← HXa.out])
          | (refine wpList_store_all rfl 51 _ _ rfl 7 wr.heap.size (rcell rc0) (rcell r) rfl (by rw [← HXa.out]; rfl) (by exact Lv.new wr _ _) szRc rfl rfl (by rw [← HXa.out]; exact HO1.out) ?_; intro u1 hl1 k1; have HKu : Hid (Kp (fun _ => False) wr u1) := ((Kp.refl (fun _ => False) wr).alloc _).trans k1 (fun b hb e => by omega); have HLu : Hid (Lv u1 wr.heap.size (rcell r)) := hl1; clear hl1 k1)
          | (refine wpList_load_all rfl 51 _ rfl 7 wr.heap.size (rcell r) rfl HLu.out dsRc szRc rfl ?_; rw [← HXa.out])
          | (go_at_call 38; refine (HSp.out _).mono ?_; rintro e9 u2 ⟨rfl, k2⟩; have HKu2 : Hid (Kp (fun _ => False) wr u2) := HKu.out.trans k2 (fun _ _ e => e); have HLu2 : Hid (Lv u2 wr.heap.size (rcell r)) := HLu.out.keep k2 id; clear HLu HKu k2; have HLu := HLu2; clear HLu2)
          | (go_at_call 37; refine (HAn.out _).mono ?_; rintro e9 u3 ⟨rfl, k3⟩; have HKu3 : Hid (Kp (fun _ => False) wr u3) := HKu2.out.trans k3 (fun _ _ e => e); have HLu3 : Hid (Lv u3 wr.heap.size (rcell r)) := HLu.out.keep k3 id; clear HLu HKu2 k3))
        go_cut [17] (fun v wz => v = .bool (decide (put < 0) || decide (r.fr ≤ p)) ∧ u3 = wz)
        case first =>
          by_cases h1 : put < 0
          · go_wp2
            go_meet
            exact ⟨by simp [h1], rfl⟩
          · go_wp2
            go_meet
            exact ⟨by rw [decide_eq_false (show ¬ put < 0 by omega), Bool.false_or], rfl⟩
        case rest =>
          obtain ⟨rfl, rfl⟩ := hcut
          go_upto_region 7 with fail
          go_cut [18] (fun v wz => v = .bool (decide (0 ≤ del) && decide (d < sp)) ∧ u3 = wz)
          case first =>
            by_cases h1 : 0 ≤ del
            · go_wp2
              go_meet
              exact ⟨by simp [h1], rfl⟩
            · go_wp2
              go_meet
              exact ⟨by rw [decide_eq_false (show ¬ 0 ≤ del by omega)]; rfl, rfl⟩
          case rest =>
            obtain ⟨rfl, rfl⟩ := hcut
            have hsr : sp = r.to := by rw [HSe.out]; unfold spanR; rw [← HAe.out]; rfl
            have HKw : Hid (Kp (fun _ => False) w u3) := HK.out.trans HKu3.out (fun _ _ e => e)
            have c2 : u3.cell? ⟨wr.heap.size, 2, none⟩ = some (.int .i64 r.kind) := HLu3.out.cell (j := 2) rfl
            have c3 : u3.cell? ⟨wr.heap.size, 3, none⟩ = some (.int .i64 r.says) := HLu3.out.cell (j := 3) rfl
            have c6 : u3.cell? ⟨wr.heap.size, 6, none⟩ = some r.g.v := HLu3.out.cell (j := 6) rfl
            subst hsr
            have HF1 : Hid (fit1 rs put p del d k r = if decide ((k : Int) = put) || decide ((k : Int) = del) then true else if r.kind == 1 then r.says == 2 && decide (0 ≤ put) && decide (p < r.to) else if r.says == 1 then r.kind == 2 && decide (0 ≤ put) && decide (p < r.to) && !(decide (0 ≤ del) && decide (d < r.fr)) && decide (r.g.xs = (rs.getD put.toNat rc0).pb.xs) else (decide (put < 0) || decide (r.fr ≤ p)) || (decide (0 ≤ del) && decide (d < r.to))) := by show _ = _; unfold fit1; rw [← HAe.out]; rfl
            obtain ⟨kd, hkd⟩ : ∃ z, z = r.kind := ⟨_, rfl⟩
            obtain ⟨sy, hsy⟩ : ∃ z, z = r.says := ⟨_, rfl⟩
            obtain ⟨tq, hto⟩ : ∃ z, z = r.to := ⟨_, rfl⟩
            obtain ⟨fr, hfr⟩ : ∃ z, z = r.fr := ⟨_, rfl⟩
            rw [← hkd] at c2 HF1
            rw [← hsy] at c3 HF1
            rw [← hto] at HF1 ⊢
            rw [← hfr] at HF1 ⊢
            clear hkd hsy hto hfr HAe HSe HSp HAn HKu3 HR1 HO1
            go_upto_region 10 with fail
            go_cut [55] (fun v wz => v = .bool (decide ((k : Int) = put) || decide ((k : Int) = del)) ∧ u3 = wz)
            case first =>
              as_aux_lemma =>
                by_cases h1 : (k : Int) = put
                · have h1' : ((k : Int) == put) = true := by simpa using h1
                  have HB9 : Hid ((decide ((k : Int) = put) || decide ((k : Int) = del)) = true) := by show _ = _; simp [h1]
                  clear h1
                  go_wp2
                  go_meet
                  exact ⟨by rw [HB9.out], rfl⟩
                · have h1' : ((k : Int) == put) = false := by simpa using h1
                  by_cases h2 : (k : Int) = del
                  · have h2' : ((k : Int) == del) = true := by simpa using h2
                    have HB9 : Hid ((decide ((k : Int) = put) || decide ((k : Int) = del)) = true) := by show _ = _; simp [h2]
                    clear h1 h2
                    go_wp2
                    go_meet
                    exact ⟨by rw [HB9.out], rfl⟩
                  · have h2' : ((k : Int) == del) = false := by simpa using h2
                    have HB9 : Hid ((decide ((k : Int) = put) || decide ((k : Int) = del)) = false) := by show _ = _; simp [h1, h2]
                    clear h1 h2
                    go_wp2
                    go_meet
                    exact ⟨by rw [HB9.out], rfl⟩
            case rest =>
              obtain ⟨rfl, rfl⟩ := hcut
              cases hpd : decide ((k : Int) = put) || decide ((k : Int) = del) with
              | true =>
                as_aux_lemma =>
                  have HFt : Hid (fit1 rs put p del d k r = true) := by show _ = _; rw [HF1.out]; simp [hpd]
                  have HKr := HKw
                  go_wp2
                  go_roundg (n - (k + 1))
                  case rel =>
                    refine ⟨k + 1, by omega, rfl, by first | rw [HK1'.out] | rfl | go_num, HKr.out, fun i hi => ?_⟩
                    by_cases e : i = k
                    · subst e
                      rw [← HRe.out]
                      exact HFt.out
                    · exact HT.out i (by omega)
                  case measure => omega
              | false =>
                rw [hpd] at HF1
                clear hpd
                by_cases k1 : kd = 1
                · subst k1
                  by_cases s2 : sy = 2
                  · subst s2
                    by_cases h1 : put < 0
                    · have h1n : ¬ 0 ≤ put := by omega
                      as_aux_lemma =>
                        have HFt : Hid (fit1 rs put p del d k r = false) := by show _ = _; rw [HF1.out]; simp [h1n]
                        have HKr := HKw
                        go_wp2
                        go_ret
                        have hf : F = false := by
                          rw [HFe.out]
                          unfold fitsR
                          rw [List.all_eq_false]
                          exact ⟨k, List.mem_range.2 (by have := HN.out; omega), by rw [← HRe.out, HFt.out]; decide⟩
                        exact ⟨by rw [hf]; rfl, HKr.out⟩
                    · have h1n : 0 ≤ put := by omega
                      by_cases h2 : tq ≤ p
                      · have h2n : ¬ p < tq := by omega
                        as_aux_lemma =>
                          have HFt : Hid (fit1 rs put p del d k r = false) := by show _ = _; rw [HF1.out]; simp [h2n]
                          have HKr := HKw
                          go_wp2
                          go_ret
                          have hf : F = false := by
                            rw [HFe.out]
                            unfold fitsR
                            rw [List.all_eq_false]
                            exact ⟨k, List.mem_range.2 (by have := HN.out; omega), by rw [← HRe.out, HFt.out]; decide⟩
                          exact ⟨by rw [hf]; rfl, HKr.out⟩
                      · have h2n : p < tq := by omega
                        as_aux_lemma =>
                          have HFt : Hid (fit1 rs put p del d k r = true) := by show _ = _; rw [HF1.out]; simp [h1n, h2n]
                          have HKr := HKw
                          go_wp2
                          go_roundg (n - (k + 1))
                          case rel =>
                            refine ⟨k + 1, by omega, rfl, by first | rw [HK1'.out] | rfl | go_num, HKr.out, fun i hi => ?_⟩
                            by_cases e : i = k
                            · subst e
                              rw [← HRe.out]
                              exact HFt.out
                            · exact HT.out i (by omega)
                          case measure => omega
                  · have s2n : (sy != 2) = true := by simpa using s2
                    as_aux_lemma =>
                      have HFt : Hid (fit1 rs put p del d k r = false) := by show _ = _; rw [HF1.out]; simp [s2]
                      have HKr := HKw
                      go_wp2
                      go_ret
                      have hf : F = false := by
                        rw [HFe.out]
                        unfold fitsR
                        rw [List.all_eq_false]
                        exact ⟨k, List.mem_range.2 (by have := HN.out; omega), by rw [← HRe.out, HFt.out]; decide⟩
                      exact ⟨by rw [hf]; rfl, HKr.out⟩
                · have k1' : (kd == 1) = false := by simpa using k1
                  by_cases s1 : sy = 1
                  · subst s1
                    by_cases k2 : kd = 2
                    · subst k2
                      by_cases h1 : put < 0
                      · have h1n : ¬ 0 ≤ put := by omega
                        as_aux_lemma =>
                          have HFt : Hid (fit1 rs put p del d k r = false) := by show _ = _; rw [HF1.out]; simp [h1n]
                          have hb0 : decide (put < 0) = true := decide_eq_true (by omega)
                          go_wp2_with fail
                          go_big_quiet (fail)
                          have HKr : Hid (∀ m, Kp (fun _ => False) w (u3.drewN m)) := fun m => HKw.out.drewN m
                          go_wp2
                          go_ret
                          have hf : F = false := by
                            rw [HFe.out]
                            unfold fitsR
                            rw [List.all_eq_false]
                            exact ⟨k, List.mem_range.2 (by have := HN.out; omega), by rw [← HRe.out, HFt.out]; decide⟩
                          exact ⟨by rw [hf]; rfl, (HKr.out _)⟩
                      · have h1n : 0 ≤ put := by omega
                        by_cases h2 : tq ≤ p
                        · have h2n : ¬ p < tq := by omega
                          as_aux_lemma =>
                            have HFt : Hid (fit1 rs put p del d k r = false) := by show _ = _; rw [HF1.out]; simp [h2n]
                            have hb0 : decide (put < 0) = false := decide_eq_false (by omega)
                            have hb1 : decide (tq ≤ p) = true := decide_eq_true (by omega)
                            go_wp2_with fail
                            go_big_quiet (fail)
                            have HKr : Hid (∀ m, Kp (fun _ => False) w (u3.drewN m)) := fun m => HKw.out.drewN m
                            go_wp2
                            go_ret
                            have hf : F = false := by
                              rw [HFe.out]
                              unfold fitsR
                              rw [List.all_eq_false]
                              exact ⟨k, List.mem_range.2 (by have := HN.out; omega), by rw [← HRe.out, HFt.out]; decide⟩
                            exact ⟨by rw [hf]; rfl, (HKr.out _)⟩
                        · have h2n : p < tq := by omega
                          obtain ⟨pn, hpn⟩ : ∃ pn : Nat, put = (pn : Int) := ⟨put.toNat, by omega⟩
                          have hpl : pn < rs.length := by have := HP.out; have := HN.out; omega
                          obtain ⟨rp, hrp⟩ : ∃ r, r = rs.getD pn rc0 := ⟨_, rfl⟩
                          have hrpk : rs[pn]? = some rp := by rw [hrp, List.getD_eq_getElem?_getD, List.getElem?_eq_getElem hpl]; rfl
                          obtain ⟨⟨pg, cg, eg, rg⟩, ng⟩ := HRok.out.g
                          obtain ⟨⟨pp, cp, ep, rp9⟩, np⟩ := (HE.out rp (List.mem_of_getElem? hrpk)).p
                          rw [eg] at c6
                          have c5 : u3.cell? ⟨b1, o1 + pn * 7 + 5, none⟩ = some (.slice pp rp.pb.xs.length cp) := by
                            obtain ⟨x1, x2, x3, _, x5⟩ := HF.out (pn * 7 + 5) _ (rflat_get rs pn 5 rp _ hrpk rfl)
                            cases x3
                            rw [ep, ← Nat.add_assoc] at x5
                            exact HKw.out.cellv x5 id
                          have HV1 : Hid (∀ u, Kp (fun _ => False) w u → (convert 27 9 (.slice pg r.g.xs.length cg)).run Try.prog u = .ok (.string (str r.g.xs)) u) := fun u ku => convert_bytes pg _ cg _ u (rg.keep0 ku)
                          have HV2 : Hid (∀ u, Kp (fun _ => False) w u → (convert 27 9 (.slice pp rp.pb.xs.length cp)).run Try.prog u = .ok (.string (str rp.pb.xs)) u) := fun u ku => convert_bytes pp _ cp _ u (rp9.keep0 ku)
                          have HEq : Hid ((r.g.xs = rp.pb.xs ∧ (str r.g.xs).toList = (str rp.pb.xs).toList) ∨ (r.g.xs ≠ rp.pb.xs ∧ ((str r.g.xs).toList == (str rp.pb.xs).toList) = false)) := by
                            by_cases e : r.g.xs = rp.pb.xs
                            · exact Or.inl ⟨e, by rw [e]⟩
                            · exact Or.inr ⟨e, str_toList_ne2 rg.byte rp9.byte e⟩
                          have hgx : (rs.getD put.toNat rc0).pb.xs = rp.pb.xs := by rw [hpn, Int.toNat_natCast, ← hrp]
                          have v1 : ∀ m, (convert 27 9 (.slice pg r.g.xs.length cg)).run Try.prog (u3.drewN m) = .ok (.string (str r.g.xs)) (u3.drewN m) := fun m => HV1.out _ (HKw.out.drewN m)
                          have v2 : ∀ m, (convert 27 9 (.slice pp rp.pb.xs.length cp)).run Try.prog (u3.drewN m) = .ok (.string (str rp.pb.xs)) (u3.drewN m) := fun m => HV2.out _ (HKw.out.drewN m)
                          rw [hgx] at HF1
                          obtain ⟨n1, hn1⟩ : ∃ n, n = r.g.xs.length := ⟨_, rfl⟩
                          obtain ⟨n2, hn2⟩ : ∃ n, n = rp.pb.xs.length := ⟨_, rfl⟩
                          obtain ⟨s1, hs1⟩ : ∃ n, n = str r.g.xs := ⟨_, rfl⟩
                          obtain ⟨s2, hs2⟩ : ∃ n, n = str rp.pb.xs := ⟨_, rfl⟩
                          rw [← hn1] at c6 v1
                          rw [← hn2] at c5 v2
                          rw [← hs1] at v1 HEq
                          rw [← hs2] at v2 HEq
                          have hpn9 : (pn : Int) < (n : Int) := by have := HN.out; omega
                          clear HV1 HV2 rg rp9 ng np eg ep hrpk hpl hgx hn1 hn2 hs1 hs2
                          subst hpn
                          clear hrp
                          by_cases d1 : 0 ≤ del
                          · by_cases d2 : d < fr
                            · have d2n : d < fr := d2
                              as_aux_lemma =>
                                have HFt : Hid (fit1 rs (pn : Int) p del d k r = false) := by show _ = _; rw [HF1.out]; simp [d1, d2]
                                have hb0 : decide ((pn : Int) < 0) = false := decide_eq_false (by omega)
                                have hb1 : decide (tq ≤ p) = false := decide_eq_false (by omega)
                                have hb2 : decide (0 ≤ del) = true := decide_eq_true (by omega)
                                have hb3 : decide (d < fr) = true := decide_eq_true (by omega)
                                go_wp2_with fail
                                go_big_quiet (fail)
                                have HKr : Hid (∀ m, Kp (fun _ => False) w (u3.drewN m)) := fun m => HKw.out.drewN m
                                go_wp2
                                go_ret
                                have hf : F = false := by
                                  rw [HFe.out]
                                  unfold fitsR
                                  rw [List.all_eq_false]
                                  exact ⟨k, List.mem_range.2 (by have := HN.out; omega), by rw [← HRe.out, HFt.out]; decide⟩
                                exact ⟨by rw [hf]; rfl, (HKr.out _)⟩
                            · have d2n : ¬ d < fr := d2
                              rcases HEq.out with ⟨e1, e2⟩ | ⟨e1, e2⟩
                              · have e2' : (s1.toList == s2.toList) = true := by rw [e2]; simp
                                as_aux_lemma =>
                                  have HFt : Hid (fit1 rs (pn : Int) p del d k r = true) := by show _ = _; rw [HF1.out]; simp [h1n, h2n, d2n, e1]
                                  have hb0 : decide ((pn : Int) < 0) = false := decide_eq_false (by omega)
                                  have hb1 : decide (tq ≤ p) = false := decide_eq_false (by omega)
                                  have hb2 : decide (0 ≤ del) = true := decide_eq_true (by omega)
                                  have hb3 : decide (d < fr) = false := decide_eq_false (by omega)
                                  go_wp2_with fail
                                  go_big_quiet (fail)
                                  have HKr : Hid (∀ m, Kp (fun _ => False) w (u3.drewN m)) := fun m => HKw.out.drewN m
                                  go_wp2
                                  go_roundg (n - (k + 1))
                                  case rel =>
                                    refine ⟨k + 1, by omega, rfl, by first | rw [HK1'.out] | rfl | go_num, (HKr.out _), fun i hi => ?_⟩
                                    by_cases e : i = k
                                    · subst e
                                      rw [← HRe.out]
                                      exact HFt.out
                                    · exact HT.out i (by omega)
                                  case measure => omega
                              · as_aux_lemma =>
                                  have HFt : Hid (fit1 rs (pn : Int) p del d k r = false) := by show _ = _; rw [HF1.out]; simp [e1]
                                  have hb0 : decide ((pn : Int) < 0) = false := decide_eq_false (by omega)
                                  have hb1 : decide (tq ≤ p) = false := decide_eq_false (by omega)
                                  have hb2 : decide (0 ≤ del) = true := decide_eq_true (by omega)
                                  have hb3 : decide (d < fr) = false := decide_eq_false (by omega)
                                  go_wp2_with fail
                                  go_big_quiet (fail)
                                  have HKr : Hid (∀ m, Kp (fun _ => False) w (u3.drewN m)) := fun m => HKw.out.drewN m
                                  go_wp2
                                  go_ret
                                  have hf : F = false := by
                                    rw [HFe.out]
                                    unfold fitsR
                                    rw [List.all_eq_false]
                                    exact ⟨k, List.mem_range.2 (by have := HN.out; omega), by rw [← HRe.out, HFt.out]; decide⟩
                                  exact ⟨by rw [hf]; rfl, (HKr.out _)⟩
                          · have d1n : ¬ 0 ≤ del := d1
                            rcases HEq.out with ⟨e1, e2⟩ | ⟨e1, e2⟩
                            · have e2' : (s1.toList == s2.toList) = true := by rw [e2]; simp
                              as_aux_lemma =>
                                have HFt : Hid (fit1 rs (pn : Int) p del d k r = true) := by show _ = _; rw [HF1.out]; simp [h1n, h2n, d1n, e1]
                                have hb0 : decide ((pn : Int) < 0) = false := decide_eq_false (by omega)
                                have hb1 : decide (tq ≤ p) = false := decide_eq_false (by omega)
                                have hb2 : decide (0 ≤ del) = false := decide_eq_false (by omega)
                                go_wp2_with fail
                                go_big_quiet (fail)
                                have HKr : Hid (∀ m, Kp (fun _ => False) w (u3.drewN m)) := fun m => HKw.out.drewN m
                                go_wp2
                                go_roundg (n - (k + 1))
                                case rel =>
                                  refine ⟨k + 1, by omega, rfl, by first | rw [HK1'.out] | rfl | go_num, (HKr.out _), fun i hi => ?_⟩
                                  by_cases e : i = k
                                  · subst e
                                    rw [← HRe.out]
                                    exact HFt.out
                                  · exact HT.out i (by omega)
                                case measure => omega
                            · as_aux_lemma =>
                                have HFt : Hid (fit1 rs (pn : Int) p del d k r = false) := by show _ = _; rw [HF1.out]; simp [e1]
                                have hb0 : decide ((pn : Int) < 0) = false := decide_eq_false (by omega)
                                have hb1 : decide (tq ≤ p) = false := decide_eq_false (by omega)
                                have hb2 : decide (0 ≤ del) = false := decide_eq_false (by omega)
                                go_wp2_with fail
                                go_big_quiet (fail)
                                have HKr : Hid (∀ m, Kp (fun _ => False) w (u3.drewN m)) := fun m => HKw.out.drewN m
                                go_wp2
                                go_ret
                                have hf : F = false := by
                                  rw [HFe.out]
                                  unfold fitsR
                                  rw [List.all_eq_false]
                                  exact ⟨k, List.mem_range.2 (by have := HN.out; omega), by rw [← HRe.out, HFt.out]; decide⟩
                                exact ⟨by rw [hf]; rfl, (HKr.out _)⟩
                    · have k2n : (kd != 2) = true := by simpa using k2
                      as_aux_lemma =>
                        have HFt : Hid (fit1 rs put p del d k r = false) := by show _ = _; rw [HF1.out]; simp [k1', k2]
                        go_wp2_with fail
                        go_big_quiet (fail)
                        have HKr : Hid (∀ m, Kp (fun _ => False) w (u3.drewN m)) := fun m => HKw.out.drewN m
                        go_wp2
                        go_ret
                        have hf : F = false := by
                          rw [HFe.out]
                          unfold fitsR
                          rw [List.all_eq_false]
                          exact ⟨k, List.mem_range.2 (by have := HN.out; omega), by rw [← HRe.out, HFt.out]; decide⟩
                        exact ⟨by rw [hf]; rfl, (HKr.out _)⟩
                  · have s1' : (sy == 1) = false := by simpa using s1
                    rw [k1', s1'] at HF1
                    obtain ⟨B1, hB1⟩ : ∃ b, b = (decide (put < 0) || decide (fr ≤ p)) := ⟨_, rfl⟩
                    obtain ⟨B2, hB2⟩ : ∃ b, b = (decide (0 ≤ del) && decide (d < tq)) := ⟨_, rfl⟩
                    rw [← hB1, ← hB2] at HF1
                    rw [← hB1, ← hB2]
                    clear hB1 hB2
                    cases B1 with
                    | true =>
                      as_aux_lemma =>
                        have HFt : Hid (fit1 rs put p del d k r = true) := by show _ = _; rw [HF1.out]; simp []
                        have HKr := HKw
                        go_wp2
                        go_roundg (n - (k + 1))
                        case rel =>
                          refine ⟨k + 1, by omega, rfl, by first | rw [HK1'.out] | rfl | go_num, HKr.out, fun i hi => ?_⟩
                          by_cases e : i = k
                          · subst e
                            rw [← HRe.out]
                            exact HFt.out
                          · exact HT.out i (by omega)
                        case measure => omega
                    | false =>
                      cases B2 with
                      | true =>
                        as_aux_lemma =>
                          have HFt : Hid (fit1 rs put p del d k r = true) := by show _ = _; rw [HF1.out]; simp []
                          have HKr := HKw
                          go_wp2
                          go_roundg (n - (k + 1))
                          case rel =>
                            refine ⟨k + 1, by omega, rfl, by first | rw [HK1'.out] | rfl | go_num, HKr.out, fun i hi => ?_⟩
                            by_cases e : i = k
                            · subst e
                              rw [← HRe.out]
                              exact HFt.out
                            · exact HT.out i (by omega)
                          case measure => omega
                      | false =>
                        as_aux_lemma =>
                          have HFt : Hid (fit1 rs put p del d k r = false) := by show _ = _; rw [HF1.out]; simp []
                          have HKr := HKw
                          go_wp2
                          go_ret
                          have hf : F = false := by
                            rw [HFe.out]
                            unfold fitsR
                            rw [List.all_eq_false]
                            exact ⟨k, List.mem_range.2 (by have := HN.out; omega), by rw [← HRe.out, HFt.out]; decide⟩
                          exact ⟨by rw [hf]; rfl, HKr.out⟩
    · go_wp2
      go_ret
      have hf : F = true := by
        rw [HFe.out]
        unfold fitsR
        exact range_all (fun j hj => HT.out j (by have := HN.out; omega))
      exact ⟨by rw [hf]; rfl, HK.out⟩
end Go.Proofs.Ytbbgplnenbkfeaa
