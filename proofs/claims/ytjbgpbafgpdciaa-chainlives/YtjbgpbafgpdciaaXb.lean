/- The document's chain: Next, From (From out of Cf). -/
import Derived.Test.YtjbgpbafgpdciaaXa
import Derived.Test.YtjbgpbafgpdciaaCf
namespace Go.Proofs.Ytjbgpbafgpdciaa
set_option linter.unusedVariables false
set_option linter.unusedSimpArgs false
open Go.RowKit Go.Deep Go.Maps

/-- what the links say of a slot, as the program's chain says it -/
def CX (l : List Xk) : Int → Option Cv := fun z => (xat l z).map xcv
theorem CX_some (l : List Xk) (z : Int) : (CX l z).isSome = (xat l z).isSome := by unfold CX; cases xat l z <;> rfl
theorem CX_at (l : List Xk) (z : Int) : at0 (CX l) z = xcv ((xat l z).getD xk00) := by unfold at0 CX; cases xat l z <;> rfl
/-- the document's chain at t -/
structure Xh (w : World) (Z : Nat → Prop) (t : Nat) (l : List (Xk × Value)) : Prop where
  c : ∃ po co, Lv w t [.slice po l.length co] ∧ Xg w Z po l
  dm : ∀ z x, CX (l.map (·.1)) z = some x → 1 ≤ z ∧ z ≤ 1152921504606846976
  ne : ¬ Z t
theorem Xh.keep0 {w w' : World} {Z : Nat → Prop} {t : Nat} {l : List (Xk × Value)} (h : Xh w Z t l) (k : Kp (fun _ => False) w w') : Xh w' Z t l := by
  obtain ⟨po, co, h1, h2⟩ := h.c
  exact ⟨⟨po, co, h1.keep k id, h2.keep k (fun _ _ => id)⟩, h.dm, h.ne⟩
theorem xcget2 {w : World} {Z : Nat → Prop} {t : Nat} {l : List (Xk × Value)} (h : Xh w Z t l) (s : Int) :
    Calls Try.prog 15 #[.pointer (some ⟨t, 0, none⟩), .int .i64 s] w fun e w' => ∃ v, e = .returned (.tuple #[v, .bool (CX (l.map (·.1)) s).isSome]) ∧ Kp (fun _ => False) w w' ∧ Told w w' (at0 (CX (l.map (·.1))) s) v := by
  obtain ⟨po, co, h1, h2⟩ := h.c
  rw [CX_some, CX_at]
  exact xcget_ok Z po co l.length l h1 rfl h2 s

set_option maxRecDepth 100000 in
set_option maxHeartbeats 1600000 in
theorem xcfrom_ok {w : World} {Z : Nat → Prop} {t : Nat} {l : List (Xk × Value)} {C : Int → Option Cv} (hC : C = CX (l.map (·.1))) (h : Xh w Z t l) (s most : Int) (hs : -9223372036854775808 ≤ s ∧ s ≤ 9223372036854775807) (N : Nat) (hN : Hid (N ≤ 1000000 ∧ ∀ i : Nat, (∀ j : Nat, j ≤ i → (C (max s 1 + (j : Int))).isSome = true) → i < N)) :
    Calls Try.prog 19 #[.pointer (some ⟨t, 0, none⟩), .int .i64 s, .int .i64 most] w fun e w' => ∃ v, e = .returned v ∧ Fr w w' C (max s 1) most v := by
  have HT : Hid (Xh w Z t l) := h
  have HCX : Hid (C = CX (l.map (·.1))) := hC
  have HDM : Hid (∀ z x, C z = some x → 1 ≤ z ∧ z ≤ 1152921504606846976) := fun z x hx => h.dm z x (by rw [← hC]; exact hx)
  clear hC
  obtain ⟨s1, hs1⟩ : ∃ s1, s1 = max s 1 := ⟨_, rfl⟩
  have HS1 : Hid (1 ≤ s1 ∧ s1 ≤ 9223372036854775807) := by show _ ∧ _; omega
  rw [← hs1] at hN ⊢
  have hmx : max s 1 = s1 := hs1.symm
  clear h hs hs1
  go_enter Try.func19, Try.ntmps19
  go_wp2
  go_loopg [7, 8] (N + 1) (fun gk rv sv wr => ∃ (k : Nat) (out : List Cv), k ≤ N ∧ gk = N + 1 - k ∧ sv = .int .i64 (s1 + (k : Int)) ∧ Rc w wr rv out ∧ out.length = k ∧ out.map (fun x => (x.1, x.2.1)) = frm C s1 k ∧ (k = 0 ∨ (k : Int) ≤ most) ∧ ∀ i : Nat, i < k → (C (s1 + (i : Int))).isSome = true)
  case atStart => exact ⟨0, [], Nat.zero_le _, rfl, by simp, Rc.nil w, rfl, rfl, Or.inl rfl, fun i hi => (by omega)⟩
  case round =>
    obtain ⟨k, out, hk, rfl, rfl, hR, hlen, hmap, hle, hall⟩ := hrel
    obtain ⟨qa, ca, hrv, _⟩ := own_fl hR.o
    rw [hlen] at hrv
    subst hrv
    have HR : Hid (Rc w wr (.slice qa k ca) out) := hR
    have HO : Hid (out.length = k ∧ out.map (fun x => (x.1, x.2.1)) = frm C s1 k ∧ (k = 0 ∨ (k : Int) ≤ most) ∧ ∀ i : Nat, i < k → (C (s1 + (i : Int))).isSome = true) := ⟨hlen, hmap, hle, hall⟩
    have HSk : Hid (1 ≤ s1 + (k : Int) ∧ s1 + (k : Int) ≤ 9223372036854775807) := by
      show _ ∧ _
      have h1 := HS1.out
      rcases Nat.eq_zero_or_pos k with h0 | h0
      · omega
      · obtain ⟨x, hx⟩ := Option.isSome_iff_exists.1 (hall (k - 1) (by omega))
        have := HDM.out _ x hx
        omega
    have HG : Hid (Calls Try.prog 15 #[.pointer (some ⟨t, 0, none⟩), .int .i64 (s1 + (k : Int))] wr fun e w' => ∃ v, e = .returned (.tuple #[v, .bool (C (s1 + (k : Int))).isSome]) ∧ Kp (fun _ => False) wr w' ∧ Told wr w' (at0 C (s1 + (k : Int))) v) := (by rw [HCX.out]; exact xcget2 (HT.out.keep0 hR.k) (s1 + (k : Int)))
    obtain ⟨z, hz⟩ : ∃ z, z = s1 + (k : Int) := ⟨_, rfl⟩
    obtain ⟨ok, hok⟩ : ∃ ok, ok = (C z).isSome := ⟨_, rfl⟩
    obtain ⟨y, hy⟩ : ∃ y, y = at0 C z := ⟨_, rfl⟩
    rw [← hz] at HG HSk ⊢
    rw [← hok, ← hy] at HG
    have HZ : Hid (z = s1 + (k : Int) ∧ ok = (C z).isSome ∧ y = at0 C z ∧ Kp (fun _ => False) w wr) := ⟨hz, hok, hy, hR.k⟩
    clear hR hlen hmap hle hall hz hok hy
    by_cases hlt : (k : Int) < most
    · go_wp2_with fail
      refine HG.out.mono ?_
      rintro e w1 ⟨v, rfl, k1, nv, rfl, hni⟩
      have HNi : Hid (Ni w1 (fun b => wr.heap.size ≤ b ∧ b < w1.heap.size) y.2.1 nv) := hni
      have HOc : Hid ((cmdA y.1 nv).toList.toArray.all (·.oneCell') = true) := cmd_one y.1 (by obtain ⟨_, _, e, _⟩ := hni; rw [e]; rfl)
      obtain ⟨ya, hya⟩ : ∃ ya : Array Value, ya = cmdA y.1 nv := ⟨_, rfl⟩
      have HYA : Hid (ya = cmdA y.1 nv) := hya
      rw [← hya] at HOc ⊢
      clear HG hni hya
      cases ok with
      | false =>
        go_wp2_with (refine wpList_store_all rfl 34 _ _ rfl 12 w1.heap.size zeroC.toList ya.toList rfl (by rw [Array.toArray_toList]; rfl) (by exact Lv.new w1 _ _) szCmd rfl (by rw [HYA.out]; rfl) HOc.out ?_; intro w2 hl2 k2; have k02 : Kp (fun _ => False) wr w2 := (k1.alloc _).trans k2 (fun b hb e => by have := k1.size; omega); clear hl2 k2)
        go_ret
        refine ⟨_, rfl, out, k, HR.out.keep k02, ⟨HO.out.2.2.2, HO.out.2.2.1, fun _ => ?_⟩, HO.out.2.1⟩
        have h1 := HZ.out.2.1
        rw [HZ.out.1] at h1
        cases hc : C (s1 + (k : Int)) with
        | none => rfl
        | some x => rw [hc] at h1; cases h1
      | true =>
        have HD : Hid (z ≤ 1152921504606846976 ∧ k < N ∧ wrap64 (z + 1) = s1 + ((k + 1 : Nat) : Int)) := by
          obtain ⟨x, hx⟩ := Option.isSome_iff_exists.1 HZ.out.2.1.symm
          have h1 := HDM.out _ x hx
          have h2 := HZ.out.2.1.symm
          rw [HZ.out.1] at h2
          have h3 := hN.out.2 k (fun j hj => by
            rcases Nat.lt_or_ge j k with e | e
            · exact HO.out.2.2.2 j e
            · obtain rfl : j = k := by omega
              exact h2)
          have h4 := HZ.out.1
          refine ⟨h1.2, h3, ?_⟩
          unfold wrap64
          omega
        have hap : ∀ w2 : World, Kp (fun _ => False) w1 w2 → Rc w w2 (.slice qa k ca) out ∧ Ni w2 (Zr w w2 (.slice qa k ca)) y.2.1 nv := fun w2 k12 => by
          refine ⟨HR.out.keep (k1.trans k12 (fun _ _ e => e)), (HNi.out.keep k12 (fun _ _ => id)).mono (fun b hb => ⟨?_, ?_, fun e => ?_⟩)⟩
          · have := HZ.out.2.2.2.size; omega
          · have := k12.size; omega
          · have := (ownBlock_lt HR.out.o e).2; omega
        have HAp : Hid (∀ w2 : World, Kp (fun _ => False) w1 w2 → Rc w w2 (.slice qa k ca) out ∧ Ni w2 (Zr w w2 (.slice qa k ca)) y.2.1 nv) := hap
        clear hap
        go_wp2_with (first
          | (refine wpList_store_all rfl 34 _ _ rfl 12 w1.heap.size zeroC.toList ya.toList rfl (by rw [Array.toArray_toList]; rfl) (by exact Lv.new w1 _ _) szCmd rfl (by rw [HYA.out]; rfl) HOc.out ?_; intro w2 hl2 k2; have k12 : Kp (fun _ => False) w1 w2 := ((Kp.refl (fun _ => False) w1).alloc _).trans k2 (fun b hb e => by omega); have HL2 : Hid (Lv w2 w1.heap.size ya.toList) := hl2; clear hl2 k2)
          | (refine wpList_load_all rfl 34 _ rfl 12 w1.heap.size ya.toList rfl HL2.out dsCmd szCmd (by rw [HYA.out]; rfl) ?_; rw [Array.toArray_toList, HYA.out])
          | (at_builtin; refine wpList_app_c (HAp.out w2 k12).1 (y.1, y.2.1, nv) (HAp.out w2 k12).2 (by have := HO.out.1; have := hN.out.1; have := HD.out; omega) rfl _ _ rfl rfl rfl ?_; intro a2 w3 hR3; have HR3 : Hid (Rc w w3 a2 (out ++ [(y.1, y.2.1, nv)])) := hR3; clear hR3))
        go_roundg (N + 1 - (k + 1))
        case rel =>
          refine ⟨k + 1, out ++ [(y.1, y.2.1, nv)], HD.out.2.1, rfl, by rw [HD.out.2.2], HR3.out, by rw [List.length_append, HO.out.1]; rfl, ?_, Or.inr (by omega), fun i hi => ?_⟩
          · rw [List.map_append, HO.out.2.1, frm_succ, ← HZ.out.1]
            unfold plainC
            rw [← HZ.out.2.2.1]
            rfl
          · by_cases e : i = k
            · rw [e, ← HZ.out.1]; exact HZ.out.2.1.symm
            · exact HO.out.2.2.2 i (by omega)
        case measure => have := HD.out; omega
    · go_wp2
      go_ret
      exact ⟨_, rfl, out, k, HR.out, ⟨HO.out.2.2.2, HO.out.2.2.1, fun h => absurd h (by omega)⟩, HO.out.2.1⟩

set_option maxRecDepth 100000 in
set_option maxHeartbeats 1600000 in
theorem xcnext_ok {w : World} {Z : Nat → Prop} {t : Nat} {l : List (Xk × Value)} {C : Int → Option Cv} (hC : C = CX (l.map (·.1))) (h : Xh w Z t l) (n9 : Int) (hf : Fst C n9) :
    Calls Try.prog 13 #[.pointer (some ⟨t, 0, none⟩)] w fun e w' => e = .returned (.int .i64 n9) ∧ Kp (fun _ => False) w w' := by
  have HT : Hid (Xh w Z t l) := h
  have HCX : Hid (C = CX (l.map (·.1))) := hC
  have HF : Hid (Fst C n9) := hf
  have HLE : Hid (1 ≤ n9 ∧ n9 ≤ 1152921504606846977) := hf.le (fun z x hx => h.dm z x (by rw [← hC]; exact hx))
  clear h hC hf
  go_enter Try.func13, Try.ntmps13
  go_wp2
  go_loopg [3] (n9 - 1).toNat (fun gk nv wr => ∃ n : Int, 1 ≤ n ∧ n ≤ n9 ∧ gk = (n9 - n).toNat ∧ nv = .int .i64 n ∧ Hid (Kp (fun _ => False) w wr))
  case atStart => exact ⟨1, by omega, HLE.out.1, rfl, rfl, Kp.refl _ _⟩
  case round =>
    obtain ⟨n, h1, h2, rfl, rfl, HK⟩ := hrel
    have HG : Hid (Calls Try.prog 15 #[.pointer (some ⟨t, 0, none⟩), .int .i64 n] wr fun e w' => ∃ v, e = .returned (.tuple #[v, .bool (C n).isSome]) ∧ Kp (fun _ => False) wr w' ∧ Told wr w' (at0 C n) v) := by rw [HCX.out]; exact xcget2 (HT.out.keep0 HK.out) n
    obtain ⟨ok, hok⟩ : ∃ ok, ok = (C n).isSome := ⟨_, rfl⟩
    obtain ⟨y, hy⟩ : ∃ y, y = at0 C n := ⟨_, rfl⟩
    rw [← hok, ← hy] at HG
    have HZ : Hid (ok = (C n).isSome ∧ 1 ≤ n ∧ n ≤ n9) := ⟨hok, h1, h2⟩
    clear hok hy h1 h2
    go_wp2_with fail
    refine HG.out.mono ?_
    rintro e w1 ⟨v, rfl, k1, nv, rfl, hni⟩
    have HOc : Hid ((cmdA y.1 nv).toList.toArray.all (·.oneCell') = true) := cmd_one y.1 (by obtain ⟨_, _, e, _⟩ := hni; rw [e]; rfl)
    obtain ⟨ya, hya⟩ : ∃ ya : Array Value, ya = cmdA y.1 nv := ⟨_, rfl⟩
    have HYA : Hid (ya = cmdA y.1 nv) := hya
    rw [← hya] at HOc ⊢
    clear HG hni hya
    cases ok with
    | false =>
      have HE : Hid (n = n9) := by
        show _ = _
        by_cases e : n = n9
        · exact e
        · have h3 := HF.out.2.2 n HZ.out.2.1 (by have := HZ.out.2.2; omega)
          rw [← HZ.out.1] at h3
          cases h3
      go_wp2_with (refine wpList_store_all rfl 34 _ _ rfl 12 w1.heap.size zeroC.toList ya.toList rfl (by rw [Array.toArray_toList]; rfl) (by exact Lv.new w1 _ _) szCmd rfl (by rw [HYA.out]; rfl) HOc.out ?_; intro w2 hl2 k2)
      go_ret
      refine ⟨by rw [← HE.out]; rfl, (HK.out.trans k1 (fun _ _ e => e)).trans (((Kp.refl (fun _ => False) w1).alloc _).trans k2 (fun b hb e => by omega)) (fun _ _ e => e)⟩
    | true =>
      have HL : Hid (n < n9) := by
        show _ < _
        have h3 := HZ.out.2.2
        rcases Int.lt_or_eq_of_le h3 with h4 | h4
        · exact h4
        · have h5 := HZ.out.1
          rw [h4, HF.out.2.1] at h5
          cases h5
      have HW : Hid (wrap64 (n + 1) = n + 1) := by
        show _ = _
        have := HLE.out
        have := HL.out
        have := HZ.out.2.1
        unfold wrap64
        omega
      go_wp2_with (refine wpList_store_all rfl 34 _ _ rfl 12 w1.heap.size zeroC.toList ya.toList rfl (by rw [Array.toArray_toList]; rfl) (by exact Lv.new w1 _ _) szCmd rfl (by rw [HYA.out]; rfl) HOc.out ?_; intro w2 hl2 k2; have HK2 : Hid (Kp (fun _ => False) w w2) := (HK.out.trans k1 (fun _ _ e => e)).trans (((Kp.refl (fun _ => False) w1).alloc _).trans k2 (fun b hb e => by omega)) (fun _ _ e => e); clear hl2 k2)
      go_roundg ((n9 - (n + 1)).toNat)
      case rel => exact ⟨n + 1, by have := HZ.out; omega, by have := HL.out; omega, rfl, by first | rfl | rw [HW.out], HK2⟩
      case measure => have := HL.out; omega
end Go.Proofs.Ytjbgpbafgpdciaa
