/- The records off the ring: records. -/
import Derived.Test.YtippipeebkkghaaGreatDoorBa
namespace Go.Proofs.YtippipeebkkghaaGreatDoor
set_option linter.unusedVariables false
set_option linter.unusedSimpArgs false
open Go.RowKit Go.Deep

/-- the records from a number on, off the ring: what stands behind used sectors and the records acc -/
def recsW (rd : Nat → List Nat) (s place first : Nat) : Nat → Nat → List (List Nat) → List (List Nat) × Nat
  | 0, used, acc => (acc, used)
  | f + 1, used, acc => match recW rd s (place + used) ((first + acc.length : Nat) : Int) (min (s - used) 50) 0 [] with
    | none => (acc, used)
    | some ys => recsW rd s place first f (used + (ys.length + 39) / 40) (acc ++ [ys])

def stepRs (rd : Nat → List Nat) (s place first f used : Nat) (acc : List (List Nat)) : Option (List Nat) → List (List Nat) × Nat
  | none => (acc, used)
  | some ys => recsW rd s place first f (used + (ys.length + 39) / 40) (acc ++ [ys])
theorem recsW_succ (rd : Nat → List Nat) (s place first f used : Nat) (acc : List (List Nat)) : recsW rd s place first (f + 1) used acc = stepRs rd s place first f used acc (recW rd s (place + used) ((first + acc.length : Nat) : Int) (min (s - used) 50) 0 []) := by
  rw [recsW]
  cases recW rd s (place + used) ((first + acc.length : Nat) : Int) (min (s - used) 50) 0 [] <;> rfl

theorem okR_len {b : List Nat} {num : Int} {i : Nat} (h : okR b num i = true) : 1 ≤ (bytP b).length ∧ (lstP b = true ∨ (bytP b).length = 40) ∧ (bytP b).length ≤ 40 := by
  refine ⟨?_, ?_, ?_⟩
  · unfold okR rightP at h
    simp only [Bool.and_eq_true, decide_eq_true_eq] at h
    exact h.1.1
  · unfold okR rightP at h
    simp only [Bool.and_eq_true, Bool.or_eq_true, decide_eq_true_eq] at h
    exact h.1.2.1
  · unfold bytP
    rw [List.length_take]
    have : cntP b ≤ 40 := Nat.min_le_right _ _
    omega
theorem recW_len {rd : Nat → List Nat} {s place : Nat} {num : Int} : ∀ (r i : Nat) (acc ys : List Nat), acc.length = 40 * i → recW rd s place num r i acc = some ys → 1 ≤ ys.length ∧ (ys.length + 39) / 40 ≤ i + r ∧ ys.length ≤ 40 * (i + r)
  | 0, i, acc, ys, ha, h => by cases h
  | r + 1, i, acc, ys, ha, h => by
    unfold recW at h
    obtain ⟨b, hb⟩ : ∃ b, b = rd (2 + (place + i) % s) := ⟨_, rfl⟩
    rw [← hb] at h
    by_cases ho : okR b num i = true
    · rw [if_pos ho] at h
      obtain ⟨h1, h2, h3⟩ := okR_len ho
      by_cases hl : lstP b = true
      · rw [if_pos hl] at h
        have h9 := Option.some.inj h
        rw [← h9, List.length_append]
        omega
      · rw [if_neg hl] at h
        have h40 : (bytP b).length = 40 := h2.resolve_left hl
        have := recW_len r (i + 1) (acc ++ bytP b) ys (by rw [List.length_append]; omega) h
        omega
    · rw [if_neg ho] at h
      cases h

theorem own_form {w : World} {base : Nat} {v : Value} {xs : List Nat} (h : Ow w base v xs) : ∃ p c, v = .slice p xs.length c := by
  rcases Joins.ownsRow_forms h with ⟨e1, e2⟩ | ⟨g, c, e⟩
  · exact ⟨none, 0, by rw [e1, e2]⟩
  · exact ⟨_, c, e⟩

/-- a row of texts of one's own, each in bytes of one's own -/
def Rw (w : World) (base : Nat) (v : Value) (recs : List (List Nat)) : Prop := ∃ vs : List Value, w.ownsRow base 75 1 v recs.length vs ∧ vs.length = recs.length ∧ ∀ (i : Nat) (x : List Nat) (u : Value), recs[i]? = some x → vs[i]? = some u → Ow w base u x ∧ ∀ b, v.ownBlock = some b → u.ownBlock ≠ some b
theorem Rw.nil (w : World) (base : Nat) : Rw w base (.slice none 0 0) [] := ⟨[], World.ownsRow_nil _ _ _ _, rfl, fun i x u h => by cases h⟩
theorem Rw.keep0 {w w' : World} {base : Nat} {v : Value} {recs : List (List Nat)} (h : Rw w base v recs) (k : Kp (fun _ => False) w w') : Rw w' base v recs := by
  obtain ⟨vs, h1, h2, h3⟩ := h
  exact ⟨vs, ownsRow_keep h1 k (fun _ _ e => e), h2, fun i x u hx hu => ⟨ownsRow_keep (h3 i x u hx hu).1 k (fun _ _ e => e), (h3 i x u hx hu).2⟩⟩
theorem Rw.base {w : World} {base base' : Nat} {v : Value} {recs : List (List Nat)} (h : Rw w base v recs) (hb : base' ≤ base) : Rw w base' v recs := by
  obtain ⟨vs, h1, h2, h3⟩ := h
  exact ⟨vs, ownsRow_base h1 hb, h2, fun i x u hx hu => ⟨ownsRow_base (h3 i x u hx hu).1 hb, (h3 i x u hx hu).2⟩⟩
theorem Rw.app {w w' : World} {base : Nat} {v v' u : Value} {recs : List (List Nat)} {ys : List Nat} {vs : List Value} (h1 : vs.length = recs.length) (h3 : ∀ (i : Nat) (x : List Nat) (u : Value), recs[i]? = some x → vs[i]? = some u → Ow w base u x ∧ ∀ b, v.ownBlock = some b → u.ownBlock ≠ some b)
    (hu : Ow w base u ys) (hub : ∀ b, v.ownBlock = some b → u.ownBlock ≠ some b) (o : w'.ownsRow base 75 1 v' (recs.length + 1) (vs ++ [u])) (k : Kp (fun b => v.ownBlock = some b) w w') (hv : v'.ownBlock = v.ownBlock ∨ v'.ownBlock = some w.heap.size) : Rw w' base v' (recs ++ [ys]) := by
  have key : ∀ x z, Ow w base z x → (∀ b, v.ownBlock = some b → z.ownBlock ≠ some b) → Ow w' base z x ∧ ∀ b, v'.ownBlock = some b → z.ownBlock ≠ some b := fun x z ho hb => by
    refine ⟨ownsRow_keep ho k (fun g e e2 => hb g e2 e), fun b e e2 => ?_⟩
    rcases hv with e9 | e9
    · exact hb b (e9.symm.trans e) e2
    · rw [e9] at e
      have := (ownBlock_lt ho e2).2
      injection e with e
      omega
  refine ⟨vs ++ [u], by rw [List.length_append]; exact o, by rw [List.length_append, List.length_append, h1]; rfl, fun i x z hx hz => ?_⟩
  by_cases hi : i < recs.length
  · rw [List.getElem?_append_left hi] at hx
    rw [List.getElem?_append_left (by omega)] at hz
    exact key x z (h3 i x z hx hz).1 (h3 i x z hx hz).2
  · have hi2 : i = recs.length := by
      have := (List.getElem?_eq_some_iff.1 hx).1
      rw [List.length_append] at this
      simp at this
      omega
    subst hi2
    rw [List.getElem?_append_right (Nat.le_refl _), Nat.sub_self] at hx
    rw [List.getElem?_append_right (by omega), h1, Nat.sub_self] at hz
    cases hx
    cases hz
    exact key _ _ hu hub

theorem infoTx : (Tryz.prog.info? 75).map (fun i => (i.zero, i.size, i.bytes)) = some (some (.slice none 0 0), 1, 24) := by kernel_rfl
/-- append of one text -/
theorem wpList_append_text {ops : Array Oper} {rest : List Oper} {o : Oper} {a : Act} {Q : Exit → Act → World → Prop} (w : World) (hgd : o.guard = none) (s y : Operand)
    (ho : o.op = .call { callee := .builtin .append, args := #[s, y], argTypes := #[90, 90] })
    (base : Nat) (v : Value) (n : Nat) (xs : List Value) (u : Value) (g : Nat) (hs : a.eval s = v) (hown : w.ownsRow base 75 1 v n xs) (hx : a.eval y = .slice (some ⟨g, 0, none⟩) 1 1) (hu1 : u.oneCell' = true) (hc : w.cell? ⟨g, 0, none⟩ = some u) (hlen : n ≤ 100000) (hbase : base ≤ w.heap.size)
    (h : ∀ v' w', w'.ownsRow base 75 1 v' (n + 1) (xs ++ [u]) → Kp (fun b => v.ownBlock = some b) w w' → (v'.ownBlock = v.ownBlock ∨ v'.ownBlock = some w.heap.size) → wpList Tryz.prog ops Q rest (a.put o.dst v') w') :
    wpList Tryz.prog ops Q (o :: rest) a w := by
  obtain ⟨ti, hi0, hz0, hz1, hz2⟩ := info_parts infoTx
  refine wpList_append_own_src w hgd s y 90 90 ho base 75 ti (.slice none 0 0) 1 24 Tryz.underlying90 hi0 hz0 hz1 hz2 rfl (by decide) v n xs hs hown _ 1 [u] hx
    (Src.ofSlice w Tryz.underlying90 ⟨g, 0, none⟩ 1 1 [u] (by simp) (fun j z hj => by
      have hj0 : j = 0 := by
        have := (List.getElem?_eq_some_iff.1 hj).1
        simp at this
        exact this
      subst hj0
      simp at hj
      subst hj
      simpa [Addr.add] using hc) (fun z hz => by
      simp at hz
      subst hz
      exact hu1)) (by unfold maxLen; omega) (by omega) hbase ?_
  intro v' w' h1 h2 h3
  exact h v' w' h1 (grownBy_kp h2) h3

theorem wrapFL {f l F : Nat} (h : F = f + l) (hF : (F : Int) ≤ 2000000000000000000) : wrap64 ((f : Int) + (l : Int)) = (F : Int) := by unfold wrap64; omega
theorem wrapSU {s u m : Nat} (h : m = s - u) (hu : u ≤ s) (hs : s ≤ 8192) : wrap64 ((s : Int) - (u : Int)) = (m : Int) := by unfold wrap64; omega

set_option maxRecDepth 100000 in
set_option maxHeartbeats 3200000 in
theorem records_ok {w : World} {bp d m n q s : Nat} {dur : List Nat} {T : Nat → Option (List Nat)} (h : Pt w bp d m n q dur T) (hs : n = 2 + s ∧ 1 ≤ s) (ha hb place first : Nat) (hp : (place : Int) ≤ 800000000000000000) (hf : (first : Int) ≤ 1800000000000000000) (ht : Turns w) :
    Calls Tryz.prog 146 #[ringV bp s, headV ha hb place first] w fun e w' => ∃ v, e = .returned (.tuple #[v, .int .i64 ((recsW (nowOf dur T) s place first (s + 1) 0 []).2 : Nat), .nilIface]) ∧ Kp (fun _ => False) w w' ∧ Rw w' w.heap.size v (recsW (nowOf dur T) s place first (s + 1) 0 []).1 := by
  obtain ⟨Z, hZ0⟩ : ∃ Z, Z = recsW (nowOf dur T) s place first (s + 1) 0 [] := ⟨_, rfl⟩
  have HZ : Hid (Z = recsW (nowOf dur T) s place first (s + 1) 0 []) := hZ0
  rw [← hZ0]
  clear hZ0
  have HP : Hid (Pt w bp d m n q dur T) := h
  have HT : Hid (Turns w) := ht
  have HN : Hid (n = 2 + s ∧ 1 ≤ s ∧ n ≤ 8192 ∧ (place : Int) ≤ 800000000000000000 ∧ (first : Int) ≤ 1800000000000000000) := ⟨hs.1, hs.2, h.n2, hp, hf⟩
  obtain ⟨r, hr⟩ : ∃ r, r = w.heap.size := ⟨_, rfl⟩
  obtain ⟨r2, hr2⟩ : ∃ r2, r2 = w.heap.size + 1 := ⟨_, rfl⟩
  obtain ⟨w0, hw0⟩ : ∃ y, y = (w.alloc (.cells #[.pointer (some ⟨bp, 0, none⟩), .int .i64 (s : Int)] 132)).alloc (.cells #[.int .i64 (ha : Int), .int .i64 (hb : Int), .int .i64 (place : Int), .int .i64 (first : Int)] 134) := ⟨_, rfl⟩
  have z1 : (w.alloc (.cells #[.pointer (some ⟨bp, 0, none⟩), .int .i64 (s : Int)] 132)).heap.size = w.heap.size + 1 := by simp
  have z2 : w0.heap.size = w.heap.size + 1 + 1 := by rw [hw0]; simp
  have HK0 : Hid (Kp (fun _ => False) w w0) := by rw [hw0]; exact ((Kp.refl _ _).alloc _).alloc _
  have HL0 : Hid (Lv w0 r [.pointer (some ⟨bp, 0, none⟩), .int .i64 (s : Int)]) := by rw [hw0, hr]; exact (Lv.new w _ _).keep ((Kp.refl (fun _ => False) _).alloc _) id
  have HL2 : Hid (Lv w0 r2 [.int .i64 (ha : Int), .int .i64 (hb : Int), .int .i64 (place : Int), .int .i64 (first : Int)]) := by rw [hw0, hr2, ← z1]; exact Lv.new _ _ _
  have HG : Hid (w.heap.size ≤ w0.heap.size) := by show _ ≤ _; omega
  have hnn := nil_neq
  have HI : Hid (∀ u S, Calls Tryz.prog 31 #[flt S 70, eno 70] u fun e w' => e = .returned (.bool true) ∧ Kp (fun _ => False) u w') := fun u S => is_flt S 70 70 u
  have HI0 : Hid (∀ u, Calls Tryz.prog 31 #[.nilIface, eno 70] u fun e w' => e = .returned (.bool false) ∧ w' = u) := fun u => is_nil 70 u
  clear z1 z2 h hs hp hf ht
  go_enter Tryz.func146, Tryz.ntmps146
  go_wp2_with fail
  rw [← hw0, ← hr2, ← hr]
  clear hw0 hr hr2
  go_loopg [7, 8] (s + 1) (fun gk vv uv wr => ∃ (f used : Nat) (acc : List (List Nat)) (v : Value), used ≤ s ∧ s + 1 ≤ f + used ∧ gk = f ∧ vv = v ∧ uv = .int .i64 used ∧ Hid (Kp (fun _ => False) w0 wr) ∧ Hid (Rw wr w0.heap.size v acc ∧ acc.length ≤ used) ∧ Hid (Z = recsW (nowOf dur T) s place first f used acc))
  case atStart => exact ⟨s + 1, 0, [], _, Nat.zero_le _, Nat.le_refl _, rfl, rfl, rfl, Kp.refl _ _, ⟨Rw.nil _ _, Nat.le_refl _⟩, HZ.out⟩
  case round =>
    obtain ⟨f, used, acc, v, hus, hfu, hgk, hvv, rfl, HK, HO, HR⟩ := hrel
    have hv2 := hvv.symm
    subst hv2
    obtain ⟨f9, hf9⟩ : ∃ f', f = f' + 1 := ⟨f - 1, by omega⟩
    subst hf9
    subst hgk
    have q0 := (HL0.out.keep HK.out id).cell (j := 0) rfl
    have q1 := (HL0.out.keep HK.out id).cell (j := 1) rfl
    have q2 := (HL2.out.keep HK.out id).cell (j := 2) rfl
    have q3 := (HL2.out.keep HK.out id).cell (j := 3) rfl
    have HKw : Hid (Kp (fun _ => False) w wr) := HK0.out.trans HK.out (fun _ _ e => e)
    obtain ⟨vs, hvs1, hvs2, hvs3⟩ := HO.out.1
    obtain ⟨L, hL⟩ : ∃ L, L = acc.length := ⟨_, rfl⟩
    rw [← hL] at hvs1
    have HLe : Hid (L = acc.length ∧ L ≤ used) := ⟨hL, by rw [hL]; exact HO.out.2⟩
    have HV : Hid (wr.ownsRow w0.heap.size 75 1 v L vs) := hvs1
    have HVs : Hid (vs.length = acc.length ∧ ∀ (i : Nat) (x : List Nat) (u : Value), acc[i]? = some x → vs[i]? = some u → Ow wr w0.heap.size u x ∧ ∀ b, v.ownBlock = some b → u.ownBlock ≠ some b) := ⟨hvs2, hvs3⟩
    obtain ⟨pv, cv, hv⟩ : ∃ p c, v = .slice p L c := by
      rcases Joins.ownsRow_forms hvs1 with ⟨e1, e2⟩ | ⟨g, c, e⟩
      · exact ⟨none, 0, by rw [e1, e2]⟩
      · exact ⟨_, c, e⟩
    subst hv
    obtain ⟨E, hE⟩ : ∃ E, E = place + used := ⟨_, rfl⟩
    obtain ⟨F, hF⟩ : ∃ F, F = first + L := ⟨_, rfl⟩
    obtain ⟨mo, hmo⟩ : ∃ mo, mo = s - used := ⟨_, rfl⟩
    obtain ⟨S, hS⟩ : ∃ S : Int, S = ((2 + E % s : Nat) : Int) := ⟨_, rfl⟩
    have HRec : Hid (Calls _ _ _ wr _) := record_ok (HP.out.keep0 HKw.out) ⟨HN.out.1, HN.out.2.1⟩ E mo (F : Int) (by have := HN.out; omega) (fun j hj => HKw.out.cellv (HT.out j hj) id)
    obtain ⟨O, hO⟩ : ∃ O, O = recW (nowOf dur T) s E (F : Int) (min mo 50) 0 [] := ⟨_, rfl⟩
    rw [← hO, ← hS] at HRec
    have HSt : Hid (Z = stepRs (nowOf dur T) s place first f9 used acc O) := by
      show _ = _
      rw [HR.out, recsW_succ, hO, hE, hF, hmo, hL]
    have HOl : Hid (∀ ys, O = some ys → 1 ≤ ys.length ∧ (ys.length + 39) / 40 ≤ s - used ∧ ys.length ≤ 2000) := fun ys hy => by
      have := recW_len _ 0 [] ys rfl (hO.symm.trans hy)
      omega
    have HW : Hid (wrap64 ((place : Int) + (used : Int)) = (E : Int) ∧ wrap64 ((first : Int) + (L : Int)) = (F : Int) ∧ wrap64 ((s : Int) - (used : Int)) = (mo : Int)) := ⟨(wrapPl hE (by have := HN.out; omega)).1, wrapFL hF (by have := HN.out; have := HLe.out.2; omega), wrapSU hmo hus (by have := HN.out; omega)⟩
    clear hvs1 hvs2 hvs3 hL hE hF hmo hS hO
    obtain ⟨hw1, hw2, hw3⟩ := HW.out
    go_wp2_with fail
    refine HRec.out.mono ?_
    rintro e9 w1 ⟨res, k1⟩
    have HK1 : Hid (Kp (fun _ => False) wr w1) := k1
    clear k1 HRec q0 q1 q2 q3 hw1 hw2 hw3
    cases O with
    | none =>
      have he : e9 = .returned (.tuple #[.slice none 0 0, flt S 70]) := res
      subst he
      have HZz : Hid (Z = (acc, used)) := HSt.out
      clear res HSt HOl
      go_wp2_with fail
      refine (HI.out _ _).mono ?_
      rintro e9 w2 ⟨rfl, k2⟩
      have HK2 : Hid (Kp (fun _ => False) wr w2) := HK1.out.trans k2 (fun _ _ e => e)
      clear k2
      go_wp2
      go_ret3
      rw [HZz.out]
      exact ⟨_, rfl, HKw.out.trans HK2.out (fun _ _ e => e), (HO.out.1.keep0 HK2.out).base HG.out⟩
    | some ys =>
      obtain ⟨u, ou, he⟩ := res
      subst he
      obtain ⟨N9, hN9⟩ : ∃ N, N = ys.length := ⟨_, rfl⟩
      obtain ⟨K9, hK9⟩ : ∃ K, K = (N9 + 39) / 40 := ⟨_, rfl⟩
      obtain ⟨U, hU⟩ : ∃ U, U = used + K9 := ⟨_, rfl⟩
      obtain ⟨l1, l2, l3⟩ := HOl.out ys rfl
      rw [← hN9] at l1 l2 l3
      rw [← hK9] at l2
      have HBd : Hid (1 ≤ K9 ∧ K9 ≤ s - used ∧ N9 ≤ 2000 ∧ U = used + K9) := ⟨by omega, l2, l3, hU⟩
      obtain ⟨pu, cu, hu⟩ := own_form ou
      rw [← hN9] at hu
      subst hu
      have HOu : Hid (Ow w1 wr.heap.size (.slice pu N9 cu) ys) := ou
      have HWu : Hid (wrap64 ((used : Int) + (K9 : Int)) = (U : Int)) := (wrapPl hU (by have := HN.out; have := HBd.out; omega)).1
      have HZz : Hid (Z = recsW (nowOf dur T) s place first f9 U (acc ++ [ys])) := by
        show _ = _
        rw [hU, hK9, hN9]
        exact HSt.out
      have HSec : Hid (∀ u, Calls Tryz.prog 126 #[.slice pu N9 cu] u fun e w' => e = .returned (.int .i64 (K9 : Int)) ∧ w' = u) := fun u => sectorsOf_ok pu N9 cu K9 hK9 (by have := HBd.out; omega) u
      obtain ⟨w3, hw3⟩ : ∃ y, y = w1.alloc (.cells #[.slice pu N9 cu] 75) := ⟨_, rfl⟩
      have k3 : Kp (fun _ => False) w1 w3 := by rw [hw3]; exact (Kp.refl _ _).alloc _
      have HK3 : Hid (Kp (fun _ => False) wr w3) := HK1.out.trans k3 (fun _ _ e => e)
      have HO3 : Hid (w3.ownsRow w0.heap.size 75 1 (.slice pv L cv) L vs) := ownsRow_keep HV.out HK3.out (fun _ _ e => e)
      have HC3 : Hid (w3.cell? ⟨w1.heap.size, 0, none⟩ = some (.slice pu N9 cu)) := by
        have l3 : Lv w3 w1.heap.size [.slice pu N9 cu] := by rw [hw3]; exact Lv.new _ _ _
        exact l3.cell (j := 0) rfl
      have HU3 : Hid (Ow w3 w0.heap.size (.slice pu N9 cu) ys ∧ ∀ b, (Value.slice pv L cv).ownBlock = some b → (Value.slice pu N9 cu).ownBlock ≠ some b) := ⟨ownsRow_base (ownsRow_keep HOu.out k3 (fun _ _ e => e)) HK.out.size, fun b e1 e2 => by
        have h1 := (ownBlock_lt HV.out e1).2
        have h2 := (ownBlock_lt HOu.out e2).1
        omega⟩
      have HB3 : Hid (w0.heap.size ≤ w3.heap.size) := Nat.le_trans HK.out.size HK3.out.size
      clear ou l1 l2 l3 hN9 hK9 hU HSt HOl k3
      go_wp2_with fail
      refine (HI0.out _).mono ?_
      rintro e9 w2 ⟨rfl, hw2⟩
      have hw8 := hw2.symm
      subst hw8
      clear hw2
      have hwu := HWu.out
      go_wp2_with (first
        | (refine wpList_append_text (w1.alloc (.cells #[.slice pu N9 cu] 75)) rfl _ _ rfl w0.heap.size (.slice pv L cv) L vs (.slice pu N9 cu) w1.heap.size rfl (by rw [← hw3]; exact HO3.out) rfl rfl (by rw [← hw3]; exact HC3.out) (by have := HLe.out; have := HN.out; omega) (by rw [← hw3]; exact HB3.out) ?_; intro v5 w5 o5 k5 hv5; rw [← hw3] at k5 hv5))
      refine (HSec.out _).mono ?_
      rintro e9 w6 ⟨rfl, hw6⟩
      have hw8 := hw6.symm
      subst hw8
      clear hw6
      have HF : Hid (Kp (fun _ => False) w0 w5 ∧ Rw w5 w0.heap.size v5 (acc ++ [ys]) ∧ (acc ++ [ys]).length ≤ U) := by
        refine ⟨Kp.app (HK.out.trans HK3.out (fun _ _ e => e)) HO3.out k5, ?_, ?_⟩
        · rw [HLe.out.1] at o5
          exact Rw.app HVs.out.1 (fun i x u hx hu => ⟨ownsRow_keep (HVs.out.2 i x u hx hu).1 HK3.out (fun _ _ e => e), (HVs.out.2 i x u hx hu).2⟩) HU3.out.1 HU3.out.2 o5 k5 hv5
        · rw [List.length_append]
          have := HO.out.2
          have := HBd.out
          simp
          omega
      clear o5 k5 hv5 hwu hw3
      have hwu := HWu.out
      go_wp2
      go_roundg f9
      case rel =>
        clear hwu
        exact ⟨f9, U, acc ++ [ys], v5, by have := HBd.out; omega, by have := HBd.out; omega, rfl, rfl, by first | rfl | rw [HWu.out], HF.out.1, HF.out.2, HZz.out⟩
      case measure => omega
end Go.Proofs.YtippipeebkkghaaGreatDoor
