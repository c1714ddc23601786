/- order of the document (laid by scripts/mkwc.py). -/
import Derived.Test.YtbbgplnenbkfeaaWa
import Derived.Test.YtbbgplnenbkfeaaWb
namespace Go.Proofs.Ytbbgplnenbkfeaa
set_option linter.unusedVariables false
set_option linter.unusedSimpArgs false
open Go.RowKit Go.Deep Go.Maps

theorem doR_by {w : World} {n : Int} {b : By} {r : Rc} (hb : b.ok w) (hr : r.ok w) : (doR n b r).2.1.ok w := by
  unfold doR
  split
  · split
    · exact hr.p
    · exact hb
  · split
    · split
      · exact hb
      · exact hb
    · split
      · exact by0_ok w
      · exact hb
/-- order, of rows of a length -/
def OrderAt (m : Nat) : Prop := ∀ (Z : Nat → Prop) (q : Option Addr) (n cap : Nat) (rs : List Rc) (nn : Int) (b : By) (w : World), Fl w Z q (rflat rs) → (∀ r ∈ rs, r.ok w) → n = rs.length → n ≤ 900 → n ≤ cap → b.ok w → n = m →
    Calls Try.prog 23 #[.slice q n cap, .agg #[.int .i64 nn, b.v]] w fun e w' => OrdRes rs nn b e ∧ Kp (fun _ => False) w w'

set_option maxRecDepth 100000 in
set_option maxHeartbeats 12800000 in
theorem rorder_step (n0 : Nat) (HI : ∀ m, m < n0 → OrderAt m) : OrderAt n0 := by
  intro Z q n cap rs nn b w h hr hn hn9 hc hb hnm
  subst hnm
  have HF : Hid (Fl w Z q (rflat rs)) := h
  have HE : Hid (∀ r ∈ rs, r.ok w) := hr
  have HN : Hid (n = rs.length ∧ n ≤ 900 ∧ n ≤ cap) := ⟨hn, hn9, hc⟩
  have hn9' : (n : Int) ≤ 900 := by omega
  have HDo : Hid (∀ (r : Rc) (u : World), r.ok w → Kp (fun _ => False) w u → Calls Try.prog 39 #[.agg #[.int .i64 nn, b.v], .agg (rcell r).toArray] u fun e w' => e = .returned (.tuple #[.agg #[.int .i64 (doR nn b r).1, (doR nn b r).2.1.v], .bool (okR nn b r)]) ∧ Kp (fun _ => False) u w') := fun r u h1 k => do_ok nn b r u (hb.keep k) (h1.keep k)
  have HB : Hid (b.ok w) := hb
  have HIm : Hid (∀ m, m < n → OrderAt m) := HI
  obtain ⟨⟨pb, cb, hbv, _⟩, _⟩ := hb
  obtain ⟨nb, hnb⟩ : ∃ x, x = b.xs.length := ⟨_, rfl⟩
  rw [hbv, ← hnb] at HDo ⊢
  clear h hr hn hn9 hc hbv hnb HI
  have HK0 : Hid (Kp (fun _ => False) w (w.alloc (.cells #[.int .i64 nn, .slice pb nb cb] 55))) := (Kp.refl _ _).alloc _
  have HL0 : Hid (Lv (w.alloc (.cells #[.int .i64 nn, .slice pb nb cb] 55)) w.heap.size [.int .i64 nn, .slice pb nb cb]) := Lv.new w #[.int .i64 nn, .slice pb nb cb] _
  go_enter Try.func23, Try.ntmps23
  go_wp2_with fail
  obtain ⟨bs, hbs⟩ : ∃ x, x = w.heap.size := ⟨_, rfl⟩
  rw [← hbs] at HL0 ⊢
  clear hbs
  go_loopg [5, 17] n (fun gk lv iv wr => ∃ (k : Nat) (lb : Bool), k ≤ n ∧ gk = n - k ∧ iv = .int .i64 k ∧ lv = .bool lb ∧ Hid (Kp (fun _ => False) w wr) ∧ Hid (Lv wr bs [.int .i64 nn, .slice pb nb cb]) ∧ Hid (lb = true ↔ ∃ j, j < k ∧ ansR (rs.getD j rc0) = true))
  case atStart => exact ⟨0, false, Nat.zero_le _, rfl, rfl, rfl, HK0.out, HL0.out, ⟨fun h => (by cases h), fun h => (by obtain ⟨j, hj, _⟩ := h; exact absurd hj (Nat.not_lt_zero _))⟩⟩
  case round =>
    obtain ⟨k, lb, hk, rfl, rfl, rfl, HKw, HLs, HT⟩ := hrel
    by_cases hlt : (k : Int) < (n : Int)
    · have hkl : k < rs.length := by have := HN.out; omega
      obtain ⟨r, hre⟩ : ∃ r, r = rs.getD k rc0 := ⟨_, rfl⟩
      have hrk : rs[k]? = some r := by rw [hre, List.getD_eq_getElem?_getD, List.getElem?_eq_getElem hkl]; rfl
      have hrok : r.ok w := HE.out r (List.mem_of_getElem? hrk)
      obtain ⟨b1, o1, rfl, _, _⟩ := HF.out (k * 7 + 0) _ (rflat_get rs k 0 r _ hrk rfl)
      have HRg : Hid (∀ u, Kp (fun _ => False) w u → u.rangeAt b1 (o1 + k * 7) (rcell r)) := fun u ku jq v hj => by
        obtain ⟨x1, x2, x3, _, x5⟩ := HF.out (k * 7 + jq) v (rflat_get rs k jq r v hrk hj)
        cases x3
        have := ku.cellv x5 id
        rw [← Nat.add_assoc] at this
        exact this
      have HO1 : Hid ((rcell r).toArray.all (·.oneCell') = true) := all_oneCell_toArray hrok.one
      have HRe : Hid (r = rs.getD k rc0) := hre
      have HRs : Hid (rs[k]? = some r) := hrk
      have HRk : Hid (r.ok w) := hrok
      have HAn : Hid (∀ u, Calls _ _ _ u _) := answered_ok r
      have HKi : Hid (wrap64 ((k : Int) + 1) = ((k + 1 : Nat) : Int)) := wrapK (by omega)
      obtain ⟨an, han⟩ : ∃ b, b = ansR r := ⟨_, rfl⟩
      have HAe : Hid (an = ansR r) := han
      rw [← han] at HAn
      obtain ⟨xa, hxa⟩ : ∃ xa, xa = (rcell r).toArray := ⟨_, rfl⟩
      have HXa : Hid (xa = (rcell r).toArray) := hxa
      rw [← hxa] at HAn HO1
      clear hkl hre hrk hrok han hxa
      obtain ⟨ds, hd1, hd2⟩ := dsRc
      have HTk : Hid (∀ c : Bool, (c = true ↔ lb = true ∨ an = true) → (c = true ↔ ∃ j, j < k + 1 ∧ ansR (rs.getD j rc0) = true)) := fun c hc => by
        rw [hc, HT.out, HAe.out, HRe.out]
        constructor
        · rintro (⟨j, hj, h⟩ | h)
          · exact ⟨j, by omega, h⟩
          · exact ⟨k, by omega, h⟩
        · rintro ⟨j, hj, h⟩
          by_cases e : j = k
          · subst e; exact Or.inr h
          · exact Or.inl ⟨j, by omega, h⟩
      clear HT
      cases lb with
      | true =>
        go_wp2_with (first
          | (refine wpList_load_mid rfl 51 _ rfl b1 (o1 + k * 7) rfl _ ds (HRg.out _ HKw.out) hd1 hd2 (by rw [szRc]; rfl) ?_; rw [← HXa.out])
          | (refine wpList_store_all rfl 51 _ _ rfl 7 wr.heap.size (rcell rc0) (rcell r) rfl (by rw [← HXa.out]; rfl) (by exact Lv.new wr _ _) szRc rfl rfl (by rw [← HXa.out]; exact HO1.out) ?_; intro ua hl1 k1; have HKn : Hid (Kp (fun _ => False) wr ua) := ((Kp.refl (fun _ => False) wr).alloc _).trans k1 (fun b hb e => by omega); have HLn : Hid (Lv ua wr.heap.size (rcell r)) := hl1; clear hl1 k1)
          | fail)
        go_roundg (n - (k + 1))
        case rel => exact ⟨k + 1, true, by omega, rfl, by first | rw [HKi.out] | rfl | go_num, rfl, HKw.out.trans HKn.out (fun _ _ e => e), HLs.out.keep HKn.out id, HTk.out true (by simp)⟩
        case measure => omega
      | false =>
        cases an with
        | true =>
          go_wp2_with (first
            | (refine wpList_load_mid rfl 51 _ rfl b1 (o1 + k * 7) rfl _ ds (HRg.out _ HKw.out) hd1 hd2 (by rw [szRc]; rfl) ?_; rw [← HXa.out])
            | (refine wpList_store_all rfl 51 _ _ rfl 7 wr.heap.size (rcell rc0) (rcell r) rfl (by rw [← HXa.out]; rfl) (by exact Lv.new wr _ _) szRc rfl rfl (by rw [← HXa.out]; exact HO1.out) ?_; intro ua hl1 k1; have HKn : Hid (Kp (fun _ => False) wr ua) := ((Kp.refl (fun _ => False) wr).alloc _).trans k1 (fun b hb e => by omega); have HLn : Hid (Lv ua wr.heap.size (rcell r)) := hl1; clear hl1 k1)
            | (refine wpList_ldg (by first | rfl | go_simp) 51 _ rfl wr.heap.size 0 rfl _ ds HLn.out.r hd1 hd2 (by rw [szRc]; rfl) ?_; rw [← HXa.out])
            | (go_at_call 37; refine (HAn.out _).mono ?_; rintro e9 ub ⟨rfl, k2⟩; have HKm : Hid (Kp (fun _ => False) wr ub) := HKn.out.trans k2 (fun _ _ e => e); clear k2 HKn; have HKn := HKm; clear HKm)
            | fail)
          go_roundg (n - (k + 1))
          case rel => exact ⟨k + 1, true, by omega, rfl, by first | rw [HKi.out] | rfl | go_num, rfl, HKw.out.trans HKn.out (fun _ _ e => e), HLs.out.keep HKn.out id, HTk.out true (by simp)⟩
          case measure => omega
        | false =>
          go_wp2_with (first
            | (refine wpList_load_mid rfl 51 _ rfl b1 (o1 + k * 7) rfl _ ds (HRg.out _ HKw.out) hd1 hd2 (by rw [szRc]; rfl) ?_; rw [← HXa.out])
            | (refine wpList_store_all rfl 51 _ _ rfl 7 wr.heap.size (rcell rc0) (rcell r) rfl (by rw [← HXa.out]; rfl) (by exact Lv.new wr _ _) szRc rfl rfl (by rw [← HXa.out]; exact HO1.out) ?_; intro ua hl1 k1; have HKn : Hid (Kp (fun _ => False) wr ua) := ((Kp.refl (fun _ => False) wr).alloc _).trans k1 (fun b hb e => by omega); have HLn : Hid (Lv ua wr.heap.size (rcell r)) := hl1; clear hl1 k1)
            | (refine wpList_ldg (by first | rfl | go_simp) 51 _ rfl wr.heap.size 0 rfl _ ds HLn.out.r hd1 hd2 (by rw [szRc]; rfl) ?_; rw [← HXa.out])
            | (go_at_call 37; refine (HAn.out _).mono ?_; rintro e9 ub ⟨rfl, k2⟩; have HKm : Hid (Kp (fun _ => False) wr ub) := HKn.out.trans k2 (fun _ _ e => e); clear k2 HKn; have HKn := HKm; clear HKm)
            | fail)
          go_roundg (n - (k + 1))
          case rel => exact ⟨k + 1, false, by omega, rfl, by first | rw [HKi.out] | rfl | go_num, rfl, HKw.out.trans HKn.out (fun _ _ e => e), HLs.out.keep HKn.out id, HTk.out false (by simp)⟩
          case measure => omega
    · have hkn : k = n := by omega
      subst hkn
      cases lb with
      | false =>
        have HI : Hid (OrdR rs nn b) := by
          refine ordR_iff.2 (Or.inl fun j hj => ?_)
          cases q : ansR (rs.getD j rc0) with
          | false => rfl
          | true => have := HT.out.2 ⟨j, by have := HN.out; omega, q⟩; cases this
        go_wp2_with fail
        go_ret
        exact ⟨⟨true, rfl, ⟨fun _ => HI.out, fun _ => rfl⟩⟩, HKw.out⟩
      | true =>
        obtain ⟨j0, hj0, hj1⟩ := HT.out.1 rfl
        have HLeft : Hid (¬ ∀ j, j < rs.length → ansR (rs.getD j rc0) = false) := fun h => by have := h j0 (by have := HN.out; omega); rw [this] at hj1; cases hj1
        have hkl : j0 < rs.length := by have := HN.out; omega
        obtain ⟨b1, o1, rfl, -, -⟩ := HF.out (j0 * 7 + 0) _ (rflat_get rs j0 0 rs[j0] _ (List.getElem?_eq_getElem hkl) rfl)
        clear HT hj0 hj1 hkl hlt hk
        go_wp2_with fail
        go_loopg [31] k (fun gk iv wr => ∃ i : Nat, i ≤ k ∧ gk = k - i ∧ iv = .int .i64 i ∧ Hid (Kp (fun _ => False) w wr) ∧ Hid (Lv wr bs [.int .i64 nn, .slice pb nb cb]) ∧ Hid (∀ i', i' < i → ¬ StepI rs nn b i'))
        case atStart => exact ⟨0, Nat.zero_le _, rfl, rfl, HKw.out, HLs.out, fun i' hi' => absurd hi' (Nat.not_lt_zero _)⟩
        case round =>
          clear HKw HLs HK0 HL0
          obtain ⟨i, hi, rfl, rfl, HKw, HLs, HT⟩ := hrel
          by_cases hlt : (i : Int) < (k : Int)
          · have hkl : i < rs.length := by have := HN.out; omega
            obtain ⟨r, hre⟩ : ∃ r, r = rs.getD i rc0 := ⟨_, rfl⟩
            have hrk : rs[i]? = some r := by rw [hre, List.getD_eq_getElem?_getD, List.getElem?_eq_getElem hkl]; rfl
            have hrok : r.ok w := HE.out r (List.mem_of_getElem? hrk)
            have HRg : Hid (∀ u, Kp (fun _ => False) w u → u.rangeAt b1 (o1 + i * 7) (rcell r)) := fun u ku jq v hj => by
              obtain ⟨x1, x2, x3, _, x5⟩ := HF.out (i * 7 + jq) v (rflat_get rs i jq r v hrk hj)
              cases x3
              have := ku.cellv x5 id
              rw [← Nat.add_assoc] at this
              exact this
            have HO1 : Hid ((rcell r).toArray.all (·.oneCell') = true) := all_oneCell_toArray hrok.one
            have HRe : Hid (r = rs.getD i rc0) := hre
            have HRs : Hid (rs[i]? = some r) := hrk
            have HRk : Hid (r.ok w) := hrok
            have HAn : Hid (∀ u, Calls _ _ _ u _) := answered_ok r
            have HKi : Hid (wrap64 ((i : Int) + 1) = ((i + 1 : Nat) : Int)) := wrapK (by omega)
            obtain ⟨an, han⟩ : ∃ b, b = ansR r := ⟨_, rfl⟩
            have HAe : Hid (an = ansR r) := han
            rw [← han] at HAn
            obtain ⟨xa, hxa⟩ : ∃ xa, xa = (rcell r).toArray := ⟨_, rfl⟩
            have HXa : Hid (xa = (rcell r).toArray) := hxa
            rw [← hxa] at HAn HO1
            clear hkl hre hrk hrok han hxa
            obtain ⟨ds, hd1, hd2⟩ := dsRc
            go_wp2_with (first
              | (refine wpList_load_mid rfl 51 _ rfl b1 (o1 + i * 7) rfl _ ds (HRg.out _ HKw.out) hd1 hd2 (by rw [szRc]; rfl) ?_; rw [← HXa.out])
              | (refine wpList_store_all rfl 51 _ _ rfl 7 wr.heap.size (rcell rc0) (rcell r) rfl (by rw [← HXa.out]; rfl) (by exact Lv.new wr _ _) szRc rfl rfl (by rw [← HXa.out]; exact HO1.out) ?_; intro u1 hl1 k1; have HKn : Hid (Kp (fun _ => False) wr u1) := ((Kp.refl (fun _ => False) wr).alloc _).trans k1 (fun b hb e => by omega); have HLc : Hid (Lv u1 wr.heap.size (rcell r)) := hl1; clear hl1 k1)
              | fail)
            have HKu : Hid (Kp (fun _ => False) w u1) := HKw.out.trans HKn.out (fun _ _ e => e)
            have HLb : Hid (Lv u1 bs [.int .i64 nn, .slice pb nb cb]) := HLs.out.keep HKn.out id
            obtain ⟨bx, hbx⟩ : ∃ x, x = wr.heap.size := ⟨_, rfl⟩
            rw [← hbx] at HLc ⊢
            clear HKw HLs HKn hbx HO1 HRg
            go_loopg [10, 38] k (fun gk fv jv wz => ∃ (j : Nat) (fb : Bool), j ≤ k ∧ gk = k - j ∧ jv = .int .i64 j ∧ fv = .bool fb ∧ Hid (Kp (fun _ => False) u1 wz) ∧ Hid (fb = true ↔ FreeR rs i r.fr j))
            case atStart => exact ⟨0, true, Nat.zero_le _, rfl, rfl, rfl, Kp.refl _ _, ⟨fun _ x o hx => absurd hx (Nat.not_lt_zero _), fun _ => rfl⟩⟩
            case round =>
              obtain ⟨j, fb, hj, rfl, rfl, rfl, HKz, HFr⟩ := hrel
              by_cases hjn : (j : Int) < (k : Int)
              · have hkl : j < rs.length := by have := HN.out; omega
                obtain ⟨o, hre⟩ : ∃ r, r = rs.getD j rc0 := ⟨_, rfl⟩
                have hrk : rs[j]? = some o := by rw [hre, List.getD_eq_getElem?_getD, List.getElem?_eq_getElem hkl]; rfl
                have hrok : o.ok w := HE.out o (List.mem_of_getElem? hrk)
                have HRgJ : Hid (∀ u, Kp (fun _ => False) w u → u.rangeAt b1 (o1 + j * 7) (rcell o)) := fun u ku jq v hj => by
                  obtain ⟨x1, x2, x3, _, x5⟩ := HF.out (j * 7 + jq) v (rflat_get rs j jq o v hrk hj)
                  cases x3
                  have := ku.cellv x5 id
                  rw [← Nat.add_assoc] at this
                  exact this
                have HO1J : Hid ((rcell o).toArray.all (·.oneCell') = true) := all_oneCell_toArray hrok.one
                have HReJ : Hid (o = rs.getD j rc0) := hre
                have HRsJ : Hid (rs[j]? = some o) := hrk
                have HRkJ : Hid (o.ok w) := hrok
                have HAnJ : Hid (∀ u, Calls _ _ _ u _) := answered_ok o
                have HKiJ : Hid (wrap64 ((j : Int) + 1) = ((j + 1 : Nat) : Int)) := wrapK (by omega)
                obtain ⟨anJ, han⟩ : ∃ b, b = ansR o := ⟨_, rfl⟩
                have HAeJ : Hid (anJ = ansR o) := han
                rw [← han] at HAnJ
                obtain ⟨xaJ, hxa⟩ : ∃ xa, xa = (rcell o).toArray := ⟨_, rfl⟩
                have HXaJ : Hid (xaJ = (rcell o).toArray) := hxa
                rw [← hxa] at HAnJ HO1J
                clear hkl hre hrk hrok han hxa
                obtain ⟨dsJ, hd1J, hd2J⟩ := dsRc
                have HKwJ : Hid (Kp (fun _ => False) w wr) := HKu.out.trans HKz.out (fun _ _ e => e)
                have HFrk : Hid (∀ c : Bool, (c = true ↔ fb = true ∧ (j = i ∨ anJ = false ∨ r.fr < o.to)) → (c = true ↔ FreeR rs i r.fr (j + 1))) := fun c hc => by
                  rw [hc, HFr.out, HAeJ.out]
                  constructor
                  · rintro ⟨h1, h2⟩ x y hx hne hy ha
                    by_cases e : x = j
                    · subst e
                      have e2 := HRsJ.out
                      rw [hy] at e2
                      cases e2
                      rcases h2 with h2 | h2 | h2
                      · exact absurd h2 hne
                      · rw [h2] at ha; cases ha
                      · exact h2
                    · exact h1 x y (by omega) hne hy ha
                  · intro h
                    refine ⟨fun x y hx => h x y (by omega), ?_⟩
                    by_cases e : j = i
                    · exact Or.inl e
                    · cases ha : ansR o with
                      | false => exact Or.inr (Or.inl rfl)
                      | true => exact Or.inr (Or.inr (h j o (by omega) e HRsJ.out ha))
                clear HFr
                obtain ⟨tz, htz⟩ : ∃ z, z = o.to := ⟨_, rfl⟩
                have HTz : Hid (tz = o.to) := htz
                obtain ⟨fz, hfz⟩ : ∃ z, z = r.fr := ⟨_, rfl⟩
                have HFz : Hid (fz = r.fr) := hfz
                have c0 : wr.cell? ⟨bx, 0, none⟩ = some (.int .i64 fz) := by rw [hfz]; exact HKz.out.cellv (HLc.out.cell (j := 0) rfl) id
                rw [← htz, ← hfz] at HFrk
                clear htz hfz
                cases fb with
                | false =>
                  go_wp2_with (first
                    | (refine wpList_load_mid rfl 51 _ rfl b1 (o1 + j * 7) rfl _ dsJ (HRgJ.out _ HKwJ.out) hd1J hd2J (by rw [szRc]; rfl) ?_; rw [← HXaJ.out])
                    | (refine wpList_store_all rfl 51 _ _ rfl 7 wr.heap.size (rcell rc0) (rcell o) rfl (by rw [← HXaJ.out]; rfl) (by exact Lv.new wr _ _) szRc rfl rfl (by rw [← HXaJ.out]; exact HO1J.out) ?_; intro ua hl1 k1; have HKn : Hid (Kp (fun _ => False) wr ua) := ((Kp.refl (fun _ => False) wr).alloc _).trans k1 (fun b hb e => by omega); have HLn : Hid (Lv ua wr.heap.size (rcell o)) := hl1; have c1 : ua.cell? ⟨wr.heap.size, 1, none⟩ = some (.int .i64 tz) := (by rw [HTz.out]; exact hl1.cell (j := 1) rfl); replace c0 := HKn.out.cellv c0 id; clear hl1 k1)
                    | fail)
                  go_roundg (k - (j + 1))
                  case rel => exact ⟨j + 1, false, by omega, rfl, by first | rw [HKiJ.out] | rfl | go_num, rfl, HKz.out.trans HKn.out (fun _ _ e => e), by rw [HFz.out] at HFrk; exact HFrk.out false (by simp)⟩
                  case measure => omega
                | true =>
                  by_cases hji : (j : Int) = (i : Int)
                  · have hji' : ((j : Int) == (i : Int)) = true := by simpa using hji
                    have HJi : Hid ((j : Int) = (i : Int)) := hji
                    clear hji
                    go_wp2_with (first
                      | (refine wpList_load_mid rfl 51 _ rfl b1 (o1 + j * 7) rfl _ dsJ (HRgJ.out _ HKwJ.out) hd1J hd2J (by rw [szRc]; rfl) ?_; rw [← HXaJ.out])
                      | (refine wpList_store_all rfl 51 _ _ rfl 7 wr.heap.size (rcell rc0) (rcell o) rfl (by rw [← HXaJ.out]; rfl) (by exact Lv.new wr _ _) szRc rfl rfl (by rw [← HXaJ.out]; exact HO1J.out) ?_; intro ua hl1 k1; have HKn : Hid (Kp (fun _ => False) wr ua) := ((Kp.refl (fun _ => False) wr).alloc _).trans k1 (fun b hb e => by omega); have HLn : Hid (Lv ua wr.heap.size (rcell o)) := hl1; have c1 : ua.cell? ⟨wr.heap.size, 1, none⟩ = some (.int .i64 tz) := (by rw [HTz.out]; exact hl1.cell (j := 1) rfl); replace c0 := HKn.out.cellv c0 id; clear hl1 k1)
                      | fail)
                    go_roundg (k - (j + 1))
                    case rel => exact ⟨j + 1, true, by omega, rfl, by first | rw [HKiJ.out] | rfl | go_num, rfl, HKz.out.trans HKn.out (fun _ _ e => e), by rw [HFz.out] at HFrk; exact HFrk.out true (by have := HJi.out; simp; omega)⟩
                    case measure => omega
                  · have hji' : ((j : Int) == (i : Int)) = false := by simpa using hji
                    have HNji : Hid (¬ (j : Int) = (i : Int)) := hji
                    cases anJ with
                    | false =>
                      go_wp2_with (first
                        | (refine wpList_load_mid rfl 51 _ rfl b1 (o1 + j * 7) rfl _ dsJ (HRgJ.out _ HKwJ.out) hd1J hd2J (by rw [szRc]; rfl) ?_; rw [← HXaJ.out])
                        | (refine wpList_store_all rfl 51 _ _ rfl 7 wr.heap.size (rcell rc0) (rcell o) rfl (by rw [← HXaJ.out]; rfl) (by exact Lv.new wr _ _) szRc rfl rfl (by rw [← HXaJ.out]; exact HO1J.out) ?_; intro ua hl1 k1; have HKn : Hid (Kp (fun _ => False) wr ua) := ((Kp.refl (fun _ => False) wr).alloc _).trans k1 (fun b hb e => by omega); have HLn : Hid (Lv ua wr.heap.size (rcell o)) := hl1; have c1 : ua.cell? ⟨wr.heap.size, 1, none⟩ = some (.int .i64 tz) := (by rw [HTz.out]; exact hl1.cell (j := 1) rfl); replace c0 := HKn.out.cellv c0 id; clear hl1 k1)
                        | (refine wpList_ldg (by first | rfl | go_simp) 51 _ rfl wr.heap.size 0 rfl _ dsJ HLn.out.r hd1J hd2J (by rw [szRc]; rfl) ?_; rw [← HXaJ.out])
                        | (go_at_call 37; refine (HAnJ.out _).mono ?_; rintro e9 ub ⟨rfl, k2⟩; have HKm : Hid (Kp (fun _ => False) wr ub) := HKn.out.trans k2 (fun _ _ e => e); replace c1 := k2.cellv c1 id; replace c0 := k2.cellv c0 id; clear k2 HKn; have HKn := HKm; clear HKm)
                        | fail)
                      go_roundg (k - (j + 1))
                      case rel => exact ⟨j + 1, true, by omega, rfl, by first | rw [HKiJ.out] | rfl | go_num, rfl, HKz.out.trans HKn.out (fun _ _ e => e), by rw [HFz.out] at HFrk; exact HFrk.out true (by simp)⟩
                      case measure => omega
                    | true =>
                      by_cases hft : fz < tz
                      · have HFt : Hid (fz < tz) := hft
                        go_wp2_with (first
                          | (refine wpList_load_mid rfl 51 _ rfl b1 (o1 + j * 7) rfl _ dsJ (HRgJ.out _ HKwJ.out) hd1J hd2J (by rw [szRc]; rfl) ?_; rw [← HXaJ.out])
                          | (refine wpList_store_all rfl 51 _ _ rfl 7 wr.heap.size (rcell rc0) (rcell o) rfl (by rw [← HXaJ.out]; rfl) (by exact Lv.new wr _ _) szRc rfl rfl (by rw [← HXaJ.out]; exact HO1J.out) ?_; intro ua hl1 k1; have HKn : Hid (Kp (fun _ => False) wr ua) := ((Kp.refl (fun _ => False) wr).alloc _).trans k1 (fun b hb e => by omega); have HLn : Hid (Lv ua wr.heap.size (rcell o)) := hl1; have c1 : ua.cell? ⟨wr.heap.size, 1, none⟩ = some (.int .i64 tz) := (by rw [HTz.out]; exact hl1.cell (j := 1) rfl); replace c0 := HKn.out.cellv c0 id; clear hl1 k1)
                          | (refine wpList_ldg (by first | rfl | go_simp) 51 _ rfl wr.heap.size 0 rfl _ dsJ HLn.out.r hd1J hd2J (by rw [szRc]; rfl) ?_; rw [← HXaJ.out])
                          | (go_at_call 37; refine (HAnJ.out _).mono ?_; rintro e9 ub ⟨rfl, k2⟩; have HKm : Hid (Kp (fun _ => False) wr ub) := HKn.out.trans k2 (fun _ _ e => e); replace c1 := k2.cellv c1 id; replace c0 := k2.cellv c0 id; clear k2 HKn; have HKn := HKm; clear HKm)
                          | fail)
                        go_roundg (k - (j + 1))
                        case rel => exact ⟨j + 1, true, by omega, rfl, by first | rw [HKiJ.out] | rfl | go_num, rfl, HKz.out.trans HKn.out (fun _ _ e => e), by have h9 := HFrk.out true (by simp [HFt.out]); rw [HFz.out] at h9; exact h9⟩
                        case measure => omega
                      · have HFt : Hid (tz ≤ fz) := (by show _ ≤ _; omega)
                        go_wp2_with (first
                          | (refine wpList_load_mid rfl 51 _ rfl b1 (o1 + j * 7) rfl _ dsJ (HRgJ.out _ HKwJ.out) hd1J hd2J (by rw [szRc]; rfl) ?_; rw [← HXaJ.out])
                          | (refine wpList_store_all rfl 51 _ _ rfl 7 wr.heap.size (rcell rc0) (rcell o) rfl (by rw [← HXaJ.out]; rfl) (by exact Lv.new wr _ _) szRc rfl rfl (by rw [← HXaJ.out]; exact HO1J.out) ?_; intro ua hl1 k1; have HKn : Hid (Kp (fun _ => False) wr ua) := ((Kp.refl (fun _ => False) wr).alloc _).trans k1 (fun b hb e => by omega); have HLn : Hid (Lv ua wr.heap.size (rcell o)) := hl1; have c1 : ua.cell? ⟨wr.heap.size, 1, none⟩ = some (.int .i64 tz) := (by rw [HTz.out]; exact hl1.cell (j := 1) rfl); replace c0 := HKn.out.cellv c0 id; clear hl1 k1)
                          | (refine wpList_ldg (by first | rfl | go_simp) 51 _ rfl wr.heap.size 0 rfl _ dsJ HLn.out.r hd1J hd2J (by rw [szRc]; rfl) ?_; rw [← HXaJ.out])
                          | (go_at_call 37; refine (HAnJ.out _).mono ?_; rintro e9 ub ⟨rfl, k2⟩; have HKm : Hid (Kp (fun _ => False) wr ub) := HKn.out.trans k2 (fun _ _ e => e); replace c1 := k2.cellv c1 id; replace c0 := k2.cellv c0 id; clear k2 HKn; have HKn := HKm; clear HKm)
                          | fail)
                        go_roundg (k - (j + 1))
                        case rel => exact ⟨j + 1, false, by omega, rfl, by first | rw [HKiJ.out] | rfl | go_num, (by first | rfl | rw [decide_eq_false (by have := HFt.out; omega)]), HKz.out.trans HKn.out (fun _ _ e => e), by have h9 := HFrk.out false ⟨fun h => (by cases h), fun h => (by rcases h.2 with q | q | q <;> first | (exfalso; have := HNji.out; have := HFt.out; omega) | cases q)⟩; rw [HFz.out] at h9; exact h9⟩
                        case measure => omega
              · have hjk : j = k := by omega
                subst hjk
                have HFl : Hid (fb = true ↔ FreeR rs i (rs.getD i rc0).fr rs.length) := by show _ ↔ _; rw [← HRe.out, ← HN.out.1]; exact HFr.out
                clear HFr hjn hj
                have HKy : Hid (Kp (fun _ => False) w wr) := HKu.out.trans HKz.out (fun _ _ e => e)
                have HLy : Hid (Lv wr bs [.int .i64 nn, .slice pb nb cb]) := HLb.out.keep HKz.out id
                have HLx : Hid (Lv wr bx (rcell r)) := HLc.out.keep HKz.out id
                clear HKu HKz HLb HLc
                cases fb with
                | false =>
                  have HNs : Hid (¬ StepI rs nn b i) := fun h => by have := HFl.out.2 h.1; cases this
                  go_wp2_with fail
                  go_roundg (j - (i + 1))
                  case rel =>
                    refine ⟨i + 1, by omega, rfl, by first | rw [HKi.out] | rfl | go_num, HKy.out, HLy.out, fun i' hi' => ?_⟩
                    by_cases e : i' = i
                    · subst e; exact HNs.out
                    · exact HT.out i' (by omega)
                  case measure => omega
                | true =>
                  have HDr : Hid (Calls _ _ _ wr _) := HDo.out r wr HRk.out HKy.out
                  obtain ⟨n2, hn2⟩ : ∃ z, z = (doR nn b r).1 := ⟨_, rfl⟩
                  obtain ⟨b2, hb2⟩ : ∃ z, z = (doR nn b r).2.1 := ⟨_, rfl⟩
                  obtain ⟨ok2, hok2⟩ : ∃ z, z = okR nn b r := ⟨_, rfl⟩
                  have HSt : Hid (StepI rs nn b i ↔ ok2 = true ∧ OrdR (rs.eraseIdx i) n2 b2) := by
                    show _ ↔ _
                    unfold StepI
                    rw [← HRe.out, ← hn2, ← hb2, ← hok2, HRe.out]
                    exact ⟨fun h => h.2, fun h => ⟨HFl.out.1 rfl, h⟩⟩
                  have hbk : b2.ok w := by rw [hb2]; exact doR_by HB.out HRk.out
                  have HB2 : Hid (b2.ok w) := hbk
                  obtain ⟨⟨p2, c2, hbv, _⟩, _⟩ := hbk
                  obtain ⟨m2, hm2⟩ : ∃ x, x = b2.xs.length := ⟨_, rfl⟩
                  have HV2 : Hid (b2.v = .slice p2 m2 c2) := by rw [hm2]; exact hbv
                  rw [← hn2, ← hb2, ← hok2, HV2.out, ← HXa.out] at HDr
                  clear hn2 hb2 hok2 hbv hm2 HFl HAn HAe
                  go_wp2_with (first
                    | (refine wpList_load_all rfl 55 _ rfl 2 bs [.int .i64 nn, .slice pb nb cb] rfl HLy.out dsSt szSt rfl ?_)
                    | (refine wpList_load_all rfl 51 _ rfl 7 bx (rcell r) rfl HLx.out dsRc szRc rfl ?_; rw [← HXa.out])
                    | (go_at_call 39; refine HDr.out.mono ?_; rintro e9 u2 ⟨rfl, k2⟩; have HK2 : Hid (Kp (fun _ => False) wr u2) := k2; clear k2)
                    | fail)
                  have HK3 : Hid (Kp (fun _ => False) wr (u2.alloc (.cells #[.int .i64 n2, .slice p2 m2 c2] 55))) := HK2.out.trans ((Kp.refl _ _).alloc _) (fun _ _ e => e)
                  have HL3 : Hid (Lv (u2.alloc (.cells #[.int .i64 n2, .slice p2 m2 c2] 55)) u2.heap.size [.int .i64 n2, .slice p2 m2 c2]) := Lv.new u2 #[.int .i64 n2, .slice p2 m2 c2] _
                  obtain ⟨u3, hu3⟩ : ∃ x, x = u2.alloc (.cells #[.int .i64 n2, .slice p2 m2 c2] 55) := ⟨_, rfl⟩
                  rw [← hu3] at HK3 HL3 ⊢
                  clear hu3
                  obtain ⟨bn, hbn⟩ : ∃ x, x = u2.heap.size := ⟨_, rfl⟩
                  rw [← hbn] at HL3 ⊢
                  clear hbn HDr
                  cases ok2 with
                  | false =>
                    have HNs : Hid (¬ StepI rs nn b i) := fun h => by have := (HSt.out.1 h).1; cases this
                    go_big_quiet (fail)
                    go_wp2_with fail
                    have HK4 : Hid (∀ m, Kp (fun _ => False) wr (u3.drewN m)) := fun m => HK3.out.drewN m
                    go_roundg (j - (i + 1))
                    case rel =>
                      refine ⟨i + 1, by omega, rfl, by first | rw [HKi.out] | rfl | go_num, (by first | exact HKy.out.trans HK3.out (fun _ _ e => e) | exact HKy.out.trans (HK4.out _) (fun _ _ e => e)), (by first | exact HLy.out.keep HK3.out id | exact HLy.out.keep (HK4.out _) id), fun i' hi' => ?_⟩
                      by_cases e : i' = i
                      · subst e; exact HNs.out
                      · exact HT.out i' (by omega)
                    case measure => omega
                  | true =>
                    have kd : Kp (fun _ => False) wr u3.drew := HK3.out.drew
                    obtain ⟨qr, hqr⟩ : ∃ qr, qr = (if cap = i + 1 then some ⟨b1, o1, none⟩ else some ⟨b1, o1 + (i + 1) * 7, none⟩ : Option Addr) := ⟨_, rfl⟩
                    have kw : Kp (fun _ => False) w u3.drew := HKy.out.trans kd (fun _ _ e => e)
                    have hin : i < j := by omega
                    obtain ⟨v1, w2, v2, w3, ha1, ha2, k2, k3, ho3⟩ := ord_appends (HF.out.keep kw (fun _ _ => id)) (fun r hr => (HE.out r hr).keep kw) HN.out.1 hin HN.out.2.2 HN.out.2.1 hqr
                    obtain ⟨q4, c4, hv2, hf4⟩ := own_fl ho3
                    subst hv2
                    have hl4 : (rs.eraseIdx i).length < j := by rw [List.length_eraseIdx]; have := HN.out; split <;> omega
                    have k3w : Kp (fun _ => False) w w3 := kw.trans k3 (fun _ _ e => e)
                    have hcl := HIm.out _ hl4 _ q4 (rs.eraseIdx i).length c4 (rs.eraseIdx i) n2 b2 w3 hf4 (fun r hr => (HE.out r (List.mem_of_mem_eraseIdx hr)).keep k3w) rfl (by have := HN.out; omega) (own_cap2 ho3) (HB2.out.keep k3w) rfl
                    rw [HV2.out] at hcl
                    obtain ⟨rr, hrr⟩ : ∃ rr : Bool, rr = true ↔ OrdR (rs.eraseIdx i) n2 b2 := by
                      by_cases q : OrdR (rs.eraseIdx i) n2 b2
                      · exact ⟨true, by simp [q]⟩
                      · exact ⟨false, by simp [q]⟩
                    have HRr : Hid (rr = true ↔ StepI rs nn b i) := by show _ ↔ _; rw [HSt.out]; simp [hrr]
                    have hld : ∀ u, Kp (fun _ => False) u3 u → (loadVar 55 ⟨bn, 0, none⟩).run Try.prog u = .ok (.agg #[.int .i64 n2, .slice p2 m2 c2]) u := fun u ku => (HL3.out.keep ku id).load dsSt szSt rfl
                    have kd3 : Kp (fun _ => False) u3 u3.drew := (Kp.refl _ _).drew
                    have kd9 : ∀ u, Kp (fun _ => False) u3.drew u → Kp (fun _ => False) u3 u := fun u ku => kd3.trans ku (fun _ _ e => e)
                    go_wp2_with fail
                    refine orr_region ⟨by kernel_rfl, by kernel_rfl, by kernel_rfl, by kernel_rfl, by kernel_rfl, by kernel_rfl, by kernel_rfl, by kernel_rfl, by kernel_rfl, by kernel_rfl, by kernel_rfl, by kernel_rfl, by kernel_rfl, by kernel_rfl, by kernel_rfl, by kernel_rfl, by kernel_rfl, by kernel_rfl, by kernel_rfl, by kernel_rfl, by kernel_rfl, by kernel_rfl, by kernel_rfl, by kernel_rfl⟩ b1 o1 j cap i bn hlt HN.out.2.2 hn9' n2 (.slice p2 m2 c2) v1 (.slice q4 (rs.eraseIdx i).length c4) qr hqr rr (fun d _ _ _ _ h => by cases d <;> exact h) (by rfl) (by rfl) (by rfl) (by rfl) (by rfl) w2 w3 (hld _ kd3) (hld _ (kd9 _ ((Kp.refl _ _).alloc _))) (hld _ (kd9 _ k2)) (hld _ (kd9 _ k3)) ha1 ha2 (fun z => Kp (fun _ => False) wr z) (hcl.mono ?_) ?_
                    · rintro e9 w9 ⟨⟨r9, rfl, hr9⟩, k9⟩
                      have e : r9 = rr := by
                        cases r9 with
                        | true => exact (hrr.2 (hr9.1 rfl)).symm
                        | false =>
                          cases hq : rr with
                          | true => have := hr9.2 (hrr.1 hq); cases this
                          | false => rfl
                      subst e
                      exact ⟨rfl, hld _ (kd9 _ (k3.trans k9 (fun _ _ e => e))), (kd.trans k3 (fun _ _ e => e)).trans k9 (fun _ _ e => e)⟩
                    · intro w9 k9
                      have HK9 : Hid (Kp (fun _ => False) wr w9) := k9
                      clear hqr k9 hcl hld kd9 kd3 kd kw hf4 ho3 k2 k3 k3w ha1 ha2 hl4 hrr hin HB2
                      simp only [Act.put, List.setIfInBounds_toArray, List.set_cons_succ, List.set_cons_zero]
                      cases rr with
                      | true =>
                        have HI : Hid (OrdR rs nn b) := ordR_iff.2 (Or.inr ⟨i, by have := HN.out; omega, HRr.out.1 rfl⟩)
                        go_wp2_with fail
                        go_ret
                        exact ⟨⟨true, rfl, ⟨fun _ => HI.out, fun _ => rfl⟩⟩, HKy.out.trans HK9.out (fun _ _ e => e)⟩
                      | false =>
                        have HNs : Hid (¬ StepI rs nn b i) := fun h => by have := HRr.out.2 h; cases this
                        go_wp2_with fail
                        go_roundg (j - (i + 1))
                        case rel =>
                          refine ⟨i + 1, by omega, rfl, by first | rw [HKi.out] | rfl | go_num, HKy.out.trans HK9.out (fun _ _ e => e), HLy.out.keep HK9.out id, fun i' hi' => ?_⟩
                          by_cases e : i' = i
                          · subst e; exact HNs.out
                          · exact HT.out i' (by omega)
                        case measure => omega
          · have HI : Hid (¬ OrdR rs nn b) := fun h => by
              rcases ordR_iff.1 h with h | ⟨i', hi', h⟩
              · exact absurd h HLeft.out
              · exact absurd h (HT.out i' (by have := HN.out; omega))
            go_wp2_with fail
            go_ret
            exact ⟨⟨false, rfl, ⟨fun h => (by cases h), fun h => absurd h HI.out⟩⟩, HKw.out⟩
theorem rorder_ok : OrderOk := by
  have h : ∀ n, OrderAt n := fun n => by
    induction n using Nat.strongRecOn with
    | _ n ih => exact rorder_step n ih
  exact fun Z q n cap rs w h1 h2 h3 h4 h5 => h n Z q n cap rs 0 by0 w h1 h2 h3 h4 h5 (by0_ok w) rfl
end Go.Proofs.Ytbbgplnenbkfeaa
