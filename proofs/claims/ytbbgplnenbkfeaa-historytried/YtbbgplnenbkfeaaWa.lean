/- Tried of the document, over order's contract (laid by scripts/mkwa.py). -/
import Derived.Test.YtbbgplnenbkfeaaVn
import Derived.Test.YtbbgplnenbkfeaaVy
import Derived.Test.YtbbgplnenbkfeaaWb
namespace Go.Proofs.Ytbbgplnenbkfeaa
set_option linter.unusedVariables false
set_option linter.unusedSimpArgs false
open Go.RowKit Go.Deep Go.Maps

/-- what order answers -/
def OrdRes (rs : List Rc) (n : Int) (b : By) (e : Ending) : Prop := ∃ r : Bool, e = .returned (.bool r) ∧ (r = true ↔ OrdR rs n b)
/-- order, of an empty key -/
def OrderOk : Prop := ∀ (Z : Nat → Prop) (q : Option Addr) (n cap : Nat) (rs : List Rc) (w : World), Fl w Z q (rflat rs) → (∀ r ∈ rs, r.ok w) → n = rs.length → n ≤ 900 → n ≤ cap →
    Calls Try.prog 23 #[.slice q n cap, .agg #[.int .i64 0, .slice none 0 0]] w fun e w' => OrdRes rs 0 by0 e ∧ Kp (fun _ => False) w w'

set_option maxRecDepth 100000 in
set_option maxHeartbeats 12800000 in
theorem rtried_ok (HO : OrderOk) (Z : Nat → Prop) (p : Option Addr) (cap : Nat) (es : List Ev) (w : World) (h : Fl w Z p (eflat es)) (he : ∀ e ∈ es, e.ok w) (hl : es.length ≤ 890) :
    Calls Try.prog 14 #[.slice p es.length cap] w fun r w' => r = .returned (.bool (chk es)) ∧ Kp (fun _ => False) w w' := by
  have HR : Hid (Calls _ _ _ w _) := calls_ok Z p cap es w h he (by omega)
  obtain ⟨C, hC⟩ : ∃ C, C = chk es := ⟨_, rfl⟩
  have HC : Hid (C = chk es) := hC
  have HCi : Hid (∀ cs, rd es = some cs → (chk es = true ↔ ∀ k, rightP (grpOf cs k) es.length = true)) := fun cs hcs => chk_iff hcs (by omega)
  have HIn : Hid (∀ cs, rd es = some cs → Inv es.length cs) := fun cs hcs => rd_inv hcs (by omega)
  obtain ⟨L, hL⟩ : ∃ L, L = es.length := ⟨_, rfl⟩
  have HL : Hid (L ≤ 890) := by show _ ≤ _; omega
  have hL9 : (L : Int) ≤ 890 := by omega
  rw [← hL] at HR HCi HIn
  rw [← hL, ← hC]
  clear h he hl hL hC
  cases hrd : rd es with
  | none =>
    rw [hrd] at HR
    have hc : C = false := by rw [HC.out]; unfold chk; rw [hrd]
    subst hc
    clear hrd
    go_enter Try.func14, Try.ntmps14
    go_wp2_with (go_at_call 19; refine HR.out.mono ?_; rintro e9 w9 ⟨v9, rfl, k9, h9⟩)
    go_ret
    exact ⟨rfl, k9⟩
  | some cs =>
    have HCk : Hid (C = true ↔ ∀ k, rightP (grpOf cs k) L = true) := by rw [HC.out]; exact HCi.out cs hrd
    have HInv : Hid (Inv L cs) := HIn.out cs hrd
    rw [hrd] at HR
    clear hrd HC HCi HIn
    go_enter Try.func14, Try.ntmps14
    go_wp2_with fail
    refine HR.out.mono ?_
    rintro e9 w1 ⟨v1, rfl, k1, h1⟩
    obtain ⟨rs, hRx, hRls, hlen⟩ := h1 cs rfl
    obtain ⟨q, c1, e1, hf1⟩ := own_fl hRx.o
    subst e1
    obtain ⟨n, hn⟩ : ∃ n, n = rs.length := ⟨_, rfl⟩
    have HN : Hid (n = rs.length ∧ n ≤ 890) := ⟨hn, by have := hRls.l; have := HL.out; omega⟩
    have HRls : Hid (Rls cs rs) := hRls
    have HF : Hid (Fl w1 (fun b => w.heap.size ≤ b ∧ b < w1.heap.size) q (rflat rs)) := hf1
    have HE : Hid (∀ r ∈ rs, r.ok w1) := fun r hr => (hRx.c r hr).keep hRx.k
    have HK1 : Hid (Kp (fun _ => False) w w1) := k1
    rw [← hn]
    have hn9' : (n : Int) ≤ 890 := by have := HN.out; omega
    clear hRx hRls hlen hf1 h1 k1 hn HR
    go_wp2
    go_loopg [20] n (fun gk iv wr => ∃ k : Nat, k ≤ n ∧ gk = n - k ∧ iv = .int .i64 k ∧ Hid (Kp (fun _ => False) w1 wr) ∧ Hid (∀ i b, i < k → rs[i]? = some b → Fst rs n i → rightP (grpOf cs b.key.data.toList) L = true))
    case atStart => exact ⟨0, Nat.zero_le _, rfl, rfl, Kp.refl _ _, fun i b hi => absurd hi (Nat.not_lt_zero _)⟩
    case round =>
      obtain ⟨k, hk, rfl, rfl, HK, HT⟩ := hrel
      by_cases hlt : (k : Int) < (n : Int)
      · have hkl : k < rs.length := by have := HN.out; omega
        obtain ⟨r, hrk⟩ : ∃ r, rs[k]? = some r := ⟨_, List.getElem?_eq_getElem hkl⟩
        have hrok : r.ok w1 := HE.out r (List.mem_of_getElem? hrk)
        obtain ⟨b1, o1, rfl, _, _⟩ := HF.out (k * 7 + 0) _ (rflat_get rs k 0 r _ hrk rfl)
        have HRg : Hid (∀ (j : Nat) (x : Rc) (u : World), rs[j]? = some x → Kp (fun _ => False) w1 u → u.rangeAt b1 (o1 + j * 7) (rcell x)) := fun j x u hx ku jq v hj => by
          obtain ⟨x1, x2, x3, _, x5⟩ := HF.out (j * 7 + jq) v (rflat_get rs j jq x v hx hj)
          cases x3
          have := ku.cellv x5 id
          rw [← Nat.add_assoc] at this
          exact this
        have HRk : Hid (rs[k]? = some r) := hrk
        have HO1 : Hid ((rcell r).toArray.all (·.oneCell') = true) := all_oneCell_toArray hrok.one
        have HKi : Hid (wrap64 ((k : Int) + 1) = ((k + 1 : Nat) : Int)) := wrapK (by omega)
        obtain ⟨xa, hxa⟩ : ∃ xa, xa = (rcell r).toArray := ⟨_, rfl⟩
        have HXa : Hid (xa = (rcell r).toArray) := hxa
        rw [← hxa] at HO1
        obtain ⟨ky, hky⟩ : ∃ z, z = r.key := ⟨_, rfl⟩
        have HKy : Hid (ky = r.key) := hky
        obtain ⟨ds, hd1, hd2⟩ := dsRc
        clear hkl hrk hrok hxa hky
        go_wp2_with (first
          | (refine wpList_load_mid rfl 51 _ rfl b1 (o1 + k * 7) rfl _ ds (HRg.out k r _ HRk.out HK.out) hd1 hd2 (by rw [szRc]; rfl) ?_; rw [← HXa.out])
          | (refine wpList_store_all rfl 51 _ _ rfl 7 wr.heap.size (rcell rc0) (rcell r) rfl (by rw [← HXa.out]; rfl) (by exact Lv.new wr _ _) szRc rfl rfl (by rw [← HXa.out]; exact HO1.out) ?_; intro u1 hl1 k1; have HKu : Hid (Kp (fun _ => False) w1 u1) := HK.out.trans (((Kp.refl (fun _ => False) wr).alloc _).trans k1 (fun b hb e => by omega)) (fun _ _ e => e); have HLu : Hid (Lv u1 wr.heap.size (rcell r)) := hl1; have HBx : Hid (wr.heap.size < u1.heap.size) := (by have h9 := k1.size; simp at h9; show _ < _; omega); clear hl1 k1))
        obtain ⟨bx, hbx⟩ : ∃ b, b = wr.heap.size := ⟨_, rfl⟩
        rw [← hbx] at HLu HBx ⊢
        clear hbx HO1
        go_loopg [7, 8, 27] n (fun gk fv mv iv wz => ∃ (j : Nat) (b : Bool) (a' : Value), j ≤ n ∧ gk = n - j ∧ iv = .int .i64 j ∧ fv = .bool b ∧ a' = mv ∧ Hid (Rx w1 wz a' (rgrp (rs.take j) ky.data.toList)) ∧ Hid (wz.cell? ⟨bx, 4, none⟩ = some (.string ky)) ∧ Hid (b = true ↔ Fst rs j k) ∧ Hid (∀ x, a'.ownBlock = some x → u1.heap.size ≤ x) ∧ Hid (Kp (fun _ => False) u1 wz))
        case atStart => exact ⟨0, true, .slice none 0 0, Nat.zero_le _, rfl, rfl, rfl, rfl, (Rx.nil w1).keep HKu.out, by rw [HKy.out]; exact HLu.out.cell (j := 4) rfl, ⟨fun _ j hj => absurd hj (Nat.not_lt_zero _), fun _ => rfl⟩, fun x e => (by cases e), Kp.refl _ _⟩
        case round =>
          obtain ⟨j, b, a', hj, rfl, rfl, rfl, rfl, HA, HC4, HB, HAb, HKz⟩ := hrel
          by_cases hjn : (j : Int) < (n : Int)
          · have hjl : j < rs.length := by have := HN.out; omega
            obtain ⟨o, hok⟩ : ∃ r, rs[j]? = some r := ⟨_, List.getElem?_eq_getElem hjl⟩
            have hook : o.ok w1 := HE.out o (List.mem_of_getElem? hok)
            have HOk : Hid (rs[j]? = some o) := hok
            have HOo : Hid (o.ok w1) := hook
            have HO2 : Hid ((rcell o).toArray.all (·.oneCell') = true) := all_oneCell_toArray hook.one
            have HKj : Hid (wrap64 ((j : Int) + 1) = ((j + 1 : Nat) : Int)) := wrapK (by omega)
            obtain ⟨xb, hxb⟩ : ∃ xa, xa = (rcell o).toArray := ⟨_, rfl⟩
            have HXb : Hid (xb = (rcell o).toArray) := hxb
            rw [← hxb] at HO2
            obtain ⟨ko, hko⟩ : ∃ z, z = o.key := ⟨_, rfl⟩
            have HKo : Hid (ko = o.key) := hko
            obtain ⟨qa, ca, ha1, _⟩ := own_fl HA.out.o
            subst ha1
            obtain ⟨m, hm⟩ : ∃ m, m = (rgrp (rs.take j) ky.data.toList).length := ⟨_, rfl⟩
            have HMm : Hid (m = (rgrp (rs.take j) ky.data.toList).length ∧ m ≤ 890) := ⟨hm, by
              have h1 : (rgrp (rs.take j) ky.data.toList).length ≤ (rs.take j).length := List.length_filter_le _ _
              rw [List.length_take] at h1
              have := HN.out
              omega⟩
            rw [← hm] at HA HAb ⊢
            have c4 : wr.cell? ⟨bx, 4, none⟩ = some (.string ky) := HC4.out
            clear hjl hok hook hxb hko hm HC4
            have HBw : Hid (bx < wr.heap.size) := by have := HBx.out; have := HKz.out.size; show _ < _; omega
            by_cases hkk : ko.data.toList = ky.data.toList
            · have HG : Hid (rgrp (rs.take (j + 1)) ky.data.toList = rgrp (rs.take j) ky.data.toList ++ [o]) := by show _ = _; rw [rgrp_take HOk.out, ← HKo.out, if_pos hkk]
              have hkk' : (ko.toList == ky.toList) = true := by rw [str_same, hkk]; simp
              have HFj : Hid (Fst rs (j + 1) k ↔ Fst rs j k ∧ k ≤ j) := by
                refine ⟨fun h => ⟨fun x hx => h x (by omega), h j (by omega) o r HOk.out HRk.out (by rw [← HKo.out, ← HKy.out]; exact hkk)⟩, fun h x hx => ?_⟩
                by_cases e : x = j
                · subst e; intro _ _ _ _ _; exact h.2
                · exact h.1 x (by omega)
              clear hkk
              cases b with
              | true =>
                go_wp2_with (first
                | (refine wpList_load_mid rfl 51 _ rfl b1 (o1 + j * 7) rfl _ ds (HRg.out j o _ HOk.out (HKu.out.trans HKz.out (fun _ _ e => e))) hd1 hd2 (by rw [szRc]; rfl) ?_; rw [← HXb.out])
                | (refine wpList_store_all rfl 51 _ _ rfl 7 wr.heap.size (rcell rc0) (rcell o) rfl (by rw [← HXb.out]; rfl) (by exact Lv.new wr _ _) szRc rfl rfl (by rw [← HXb.out]; exact HO2.out) ?_; intro u5 hl5 k5; have HKv : Hid (Kp (fun _ => False) wr u5) := ((Kp.refl (fun _ => False) wr).alloc _).trans k5 (fun b hb e => by omega); have d4 : u5.cell? ⟨wr.heap.size, 4, none⟩ = some (.string ko) := by rw [HKo.out]; exact hl5.cell (j := 4) rfl
                   have c4' : u5.cell? ⟨bx, 4, none⟩ = some (.string ky) := HKv.out.cellv c4 id
                   have HLv : Hid (Lv u5 wr.heap.size (rcell o)) := hl5
                   clear hl5 k5)
                | (refine wpList_load_all rfl 51 _ rfl 7 wr.heap.size (rcell o) rfl HLv.out dsRc szRc rfl ?_)
                | (at_builtin; refine wpList_app_r2 (w0 := w1) (v := u5) (cs := rgrp (rs.take j) ky.data.toList) (HA.out.keep HKv.out) o HOo.out (by have := HMm.out; omega) rfl _ _ rfl rfl rfl rfl ?_; intro a3 w3 hr3 k3 hb3))
                go_roundg (n - (j + 1))
                case rel =>
                  refine ⟨j + 1, decide (k ≤ j), a3, by omega, rfl, by first | rw [HKj.out] | rfl | go_num, rfl, rfl, ?_, ?_, ?_, fun x hx => ?_, ?_⟩
                  · show Rx _ _ _ _
                    rw [HG.out]
                    exact hr3
                  · exact k3.cellv c4' (fun e => by have := HAb.out bx e; have := HBx.out; omega)
                  · show _ ↔ _
                    rw [HFj.out, decide_eq_true_eq]
                    exact ⟨fun h => ⟨HB.out.1 (by first | rfl | trivial), h⟩, fun h => h.2⟩
                  · rcases hb3 x hx with q | q
                    · exact HAb.out x q
                    · have := HKv.out.size; have := HKz.out.size; omega
                  · exact (HKz.out.trans HKv.out (fun _ _ e => e)).trans k3 (fun x hx e => by have := HAb.out x e; omega)
                case measure => omega
              | false =>
                go_wp2_with (first
                | (refine wpList_load_mid rfl 51 _ rfl b1 (o1 + j * 7) rfl _ ds (HRg.out j o _ HOk.out (HKu.out.trans HKz.out (fun _ _ e => e))) hd1 hd2 (by rw [szRc]; rfl) ?_; rw [← HXb.out])
                | (refine wpList_store_all rfl 51 _ _ rfl 7 wr.heap.size (rcell rc0) (rcell o) rfl (by rw [← HXb.out]; rfl) (by exact Lv.new wr _ _) szRc rfl rfl (by rw [← HXb.out]; exact HO2.out) ?_; intro u5 hl5 k5; have HKv : Hid (Kp (fun _ => False) wr u5) := ((Kp.refl (fun _ => False) wr).alloc _).trans k5 (fun b hb e => by omega); have d4 : u5.cell? ⟨wr.heap.size, 4, none⟩ = some (.string ko) := by rw [HKo.out]; exact hl5.cell (j := 4) rfl
                   have c4' : u5.cell? ⟨bx, 4, none⟩ = some (.string ky) := HKv.out.cellv c4 id
                   have HLv : Hid (Lv u5 wr.heap.size (rcell o)) := hl5
                   clear hl5 k5)
                | (refine wpList_load_all rfl 51 _ rfl 7 wr.heap.size (rcell o) rfl HLv.out dsRc szRc rfl ?_)
                | (at_builtin; refine wpList_app_r2 (w0 := w1) (v := u5) (cs := rgrp (rs.take j) ky.data.toList) (HA.out.keep HKv.out) o HOo.out (by have := HMm.out; omega) rfl _ _ rfl rfl rfl rfl ?_; intro a3 w3 hr3 k3 hb3))
                go_roundg (n - (j + 1))
                case rel =>
                  refine ⟨j + 1, false, a3, by omega, rfl, by first | rw [HKj.out] | rfl | go_num, rfl, rfl, ?_, ?_, ?_, fun x hx => ?_, ?_⟩
                  · show Rx _ _ _ _
                    rw [HG.out]
                    exact hr3
                  · exact k3.cellv c4' (fun e => by have := HAb.out bx e; have := HBx.out; omega)
                  · show _ ↔ _
                    rw [HFj.out]
                    exact ⟨fun h => (by cases h), fun h => HB.out.2 h.1⟩
                  · rcases hb3 x hx with q | q
                    · exact HAb.out x q
                    · have := HKv.out.size; have := HKz.out.size; omega
                  · exact (HKz.out.trans HKv.out (fun _ _ e => e)).trans k3 (fun x hx e => by have := HAb.out x e; omega)
                case measure => omega
            · have HG : Hid (rgrp (rs.take (j + 1)) ky.data.toList = rgrp (rs.take j) ky.data.toList) := by show _ = _; rw [rgrp_take HOk.out, ← HKo.out, if_neg hkk]
              have hkk' : (ko.toList == ky.toList) = false := by rw [str_same]; simpa using hkk
              have HFj : Hid (Fst rs (j + 1) k ↔ Fst rs j k) := by
                refine ⟨fun h x hx => h x (by omega), fun h x hx => ?_⟩
                by_cases e : x = j
                · subst e
                  intro a' b' h1 h2 h3
                  rw [HOk.out] at h1
                  rw [HRk.out] at h2
                  cases h1
                  cases h2
                  rw [← HKo.out, ← HKy.out] at h3
                  exact absurd h3 hkk
                · exact h x (by omega)
              clear hkk
              go_wp2_with (first
                | (refine wpList_load_mid rfl 51 _ rfl b1 (o1 + j * 7) rfl _ ds (HRg.out j o _ HOk.out (HKu.out.trans HKz.out (fun _ _ e => e))) hd1 hd2 (by rw [szRc]; rfl) ?_; rw [← HXb.out])
                | (refine wpList_store_all rfl 51 _ _ rfl 7 wr.heap.size (rcell rc0) (rcell o) rfl (by rw [← HXb.out]; rfl) (by exact Lv.new wr _ _) szRc rfl rfl (by rw [← HXb.out]; exact HO2.out) ?_; intro u5 hl5 k5; have HKv : Hid (Kp (fun _ => False) wr u5) := ((Kp.refl (fun _ => False) wr).alloc _).trans k5 (fun b hb e => by omega); have d4 : u5.cell? ⟨wr.heap.size, 4, none⟩ = some (.string ko) := by rw [HKo.out]; exact hl5.cell (j := 4) rfl
                   have c4' : u5.cell? ⟨bx, 4, none⟩ = some (.string ky) := HKv.out.cellv c4 id
                   clear hl5 k5))
              go_roundg (n - (j + 1))
              case rel =>
                refine ⟨j + 1, b, _, by omega, rfl, by first | rw [HKj.out] | rfl | go_num, rfl, rfl, ?_, c4', ?_, HAb.out, HKz.out.trans HKv.out (fun _ _ e => e)⟩
                · show Rx _ _ _ _
                  rw [HG.out]
                  exact HA.out.keep HKv.out
                · show _ ↔ _
                  rw [HFj.out]; exact HB.out
              case measure => omega
          · have hjn2 : j = n := by omega
            subst hjn2
            have htk : rs.take j = rs := List.take_of_length_le (by have := HN.out; omega)
            rw [htk] at HA
            obtain ⟨qa, ca, ha1, hfa⟩ := own_fl HA.out.o
            subst ha1
            obtain ⟨m, hm⟩ : ∃ m, m = (rgrp rs ky.data.toList).length := ⟨_, rfl⟩
            have hm9 : m ≤ 890 := by
              have h1 : (rgrp rs ky.data.toList).length ≤ rs.length := List.length_filter_le _ _
              have := HN.out
              omega
            have HKc : Hid (Calls _ _ _ wr _) := HO _ qa m ca (rgrp rs ky.data.toList) wr hfa (fun x hx => (HA.out.c x hx).keep HA.out.k) hm (by omega) (by rw [hm]; exact own_cap2 HA.out.o)
            have HKr : Hid (OrdR (rgrp rs ky.data.toList) 0 by0 ↔ rightP (grpOf cs ky.data.toList) L = true) := ordR_right (HInv.out.wk (by have := HL.out; omega) _) (HInv.out.ods (by have := HL.out; omega) _) (HRls.out.grp _)
            have HKw : Hid (Kp (fun _ => False) w1 wr) := HKu.out.trans HKz.out (fun _ _ e => e)
            rw [← hm]
            clear hfa hm htk HA HAb HC4
            cases b with
            | true =>
              have HFt : Hid (Fst rs j k) := HB.out.1 (by first | rfl | trivial)
              clear HB
              go_wp2_with fail
              refine HKc.out.mono ?_
              rintro e9 u8 ⟨⟨kb, rfl, hkb⟩, k8⟩
              have HKb : Hid (kb = true ↔ rightP (grpOf cs ky.data.toList) L = true) := by rw [hkb]; exact HKr.out
              have HK8 : Hid (Kp (fun _ => False) w1 u8) := HKw.out.trans k8 (fun _ _ e => e)
              clear hkb k8 HKc HKr
              cases kb with
              | true =>
                go_wp2
                go_roundg (j - (k + 1))
                case rel =>
                  refine ⟨k + 1, by omega, rfl, by first | rw [HKi.out] | rfl | go_num, HK8.out, fun i b hi hib hf => ?_⟩
                  by_cases e : i = k
                  · subst e
                    rw [HRk.out] at hib
                    cases hib
                    rw [← HKy.out]
                    exact HKb.out.1 (by first | rfl | trivial)
                  · exact HT.out i b (by omega) hib hf
                case measure => omega
              | false =>
                have hc : C = false := by
                  cases hC : C with
                  | false => rfl
                  | true =>
                    have := HKb.out.2 (HCk.out.1 hC ky.data.toList)
                    cases this
                go_wp2
                go_ret
                exact ⟨by first | (rw [hc]; rfl) | rfl, HK1.out.trans HK8.out (fun _ _ e => e)⟩
            | false =>
              have HFf : Hid (¬ Fst rs j k) := fun h => by have := HB.out.2 h; cases this
              clear HB HKc HKr
              go_wp2
              go_roundg (j - (k + 1))
              case rel =>
                refine ⟨k + 1, by omega, rfl, by first | rw [HKi.out] | rfl | go_num, HKw.out, fun i b hi hib hf => ?_⟩
                by_cases e : i = k
                · subst e; exact absurd hf HFf.out
                · exact HT.out i b (by omega) hib hf
              case measure => omega
      · have hc : C = true := by
          rw [HCk.out]
          intro kk
          by_cases hg : rgrp rs kk = []
          · have h9 := (HRls.out.grp kk).l
            rw [hg] at h9
            have : grpOf cs kk = [] := List.eq_nil_of_length_eq_zero h9.symm
            rw [this]
            exact right_nil _ (by have := HL.out; omega)
          · obtain ⟨i, b, h1, h2, h3⟩ := fst_some hg
            have hil := (List.getElem?_eq_some_iff.1 h1).1
            have := HT.out i b (by have := HN.out; omega) h1 (by rw [HN.out.1]; exact h3)
            rw [h2] at this
            exact this
        go_wp2
        go_ret
        exact ⟨by first | (rw [hc]; rfl) | rfl, HK1.out.trans HK.out (fun _ _ e => e)⟩
end Go.Proofs.Ytbbgplnenbkfeaa
