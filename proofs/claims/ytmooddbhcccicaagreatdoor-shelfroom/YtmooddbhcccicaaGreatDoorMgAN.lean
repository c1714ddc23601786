/- Texts of this proof, joined: Bb, Pl5, Bf. -/
import Derived.Test.YtmooddbhcccicaaGreatDoorMgAM
import Derived.Test.YtmooddbhcccicaaGreatDoorMgAG
/- The records off the ring: records. -/
namespace Go.Proofs.YtmooddbhcccicaaGreatDoor
set_option linter.unusedVariables false
set_option linter.unusedSimpArgs false
open Go.RowKit Go.Deep

/-- the records from a number on, off the ring: what stands behind used sectors and the records acc -/
def recsW (rd : Nat → List Nat) (s place first : Nat) : Nat → Nat → List (List Nat) → List (List Nat) × Nat
  | 0, used, acc => (acc, used)
  | f + 1, used, acc => match recW rd s (place + used) ((first + acc.length : Nat) : Int) (min (s - used) 50) 0 [] with
    | none => (acc, used)
    | some ys => recsW rd s place first f (used + (ys.length + 39) / 40) (acc ++ [ys])

def stepRs (rd : Nat → List Nat) (s place first f used : Nat) (acc : List (List Nat)) : Option (List Nat) → List (List Nat) × Nat
  | none => (acc, used)
  | some ys => recsW rd s place first f (used + (ys.length + 39) / 40) (acc ++ [ys])
theorem recsW_succ (rd : Nat → List Nat) (s place first f used : Nat) (acc : List (List Nat)) : recsW rd s place first (f + 1) used acc = stepRs rd s place first f used acc (recW rd s (place + used) ((first + acc.length : Nat) : Int) (min (s - used) 50) 0 []) := by
  rw [recsW]
  cases recW rd s (place + used) ((first + acc.length : Nat) : Int) (min (s - used) 50) 0 [] <;> rfl

theorem okR_len {b : List Nat} {num : Int} {i : Nat} (h : okR b num i = true) : 1 ≤ (bytP b).length ∧ (lstP b = true ∨ (bytP b).length = 40) ∧ (bytP b).length ≤ 40 := by
  refine ⟨?_, ?_, ?_⟩
  · unfold okR rightP at h
    simp only [Bool.and_eq_true, decide_eq_true_eq] at h
    exact h.1.1
  · unfold okR rightP at h
    simp only [Bool.and_eq_true, Bool.or_eq_true, decide_eq_true_eq] at h
    exact h.1.2.1
  · unfold bytP
    rw [List.length_take]
    have : cntP b ≤ 40 := Nat.min_le_right _ _
    omega
theorem recW_len {rd : Nat → List Nat} {s place : Nat} {num : Int} : ∀ (r i : Nat) (acc ys : List Nat), acc.length = 40 * i → recW rd s place num r i acc = some ys → 1 ≤ ys.length ∧ (ys.length + 39) / 40 ≤ i + r ∧ ys.length ≤ 40 * (i + r)
  | 0, i, acc, ys, ha, h => by cases h
  | r + 1, i, acc, ys, ha, h => by
    unfold recW at h
    obtain ⟨b, hb⟩ : ∃ b, b = rd (2 + (place + i) % s) := ⟨_, rfl⟩
    rw [← hb] at h
    by_cases ho : okR b num i = true
    · rw [if_pos ho] at h
      obtain ⟨h1, h2, h3⟩ := okR_len ho
      by_cases hl : lstP b = true
      · rw [if_pos hl] at h
        have h9 := Option.some.inj h
        rw [← h9, List.length_append]
        omega
      · rw [if_neg hl] at h
        have h40 : (bytP b).length = 40 := h2.resolve_left hl
        have := recW_len r (i + 1) (acc ++ bytP b) ys (by rw [List.length_append]; omega) h
        omega
    · rw [if_neg ho] at h
      cases h

theorem own_form {w : World} {base : Nat} {v : Value} {xs : List Nat} (h : Ow w base v xs) : ∃ p c, v = .slice p xs.length c := by
  rcases Joins.ownsRow_forms h with ⟨e1, e2⟩ | ⟨g, c, e⟩
  · exact ⟨none, 0, by rw [e1, e2]⟩
  · exact ⟨_, c, e⟩

/-- a row of texts of one's own, each in bytes of one's own -/
def Rw (w : World) (base : Nat) (v : Value) (recs : List (List Nat)) : Prop := ∃ vs : List Value, w.ownsRow base 34 1 v recs.length vs ∧ vs.length = recs.length ∧ ∀ (i : Nat) (x : List Nat) (u : Value), recs[i]? = some x → vs[i]? = some u → Ow w base u x ∧ ∀ b, v.ownBlock = some b → u.ownBlock ≠ some b
theorem Rw.nil (w : World) (base : Nat) : Rw w base (.slice none 0 0) [] := ⟨[], World.ownsRow_nil _ _ _ _, rfl, fun i x u h => by cases h⟩
theorem Rw.keep0 {w w' : World} {base : Nat} {v : Value} {recs : List (List Nat)} (h : Rw w base v recs) (k : Kp (fun _ => False) w w') : Rw w' base v recs := by
  obtain ⟨vs, h1, h2, h3⟩ := h
  exact ⟨vs, ownsRow_keep h1 k (fun _ _ e => e), h2, fun i x u hx hu => ⟨ownsRow_keep (h3 i x u hx hu).1 k (fun _ _ e => e), (h3 i x u hx hu).2⟩⟩
theorem Rw.base {w : World} {base base' : Nat} {v : Value} {recs : List (List Nat)} (h : Rw w base v recs) (hb : base' ≤ base) : Rw w base' v recs := by
  obtain ⟨vs, h1, h2, h3⟩ := h
  exact ⟨vs, ownsRow_base h1 hb, h2, fun i x u hx hu => ⟨ownsRow_base (h3 i x u hx hu).1 hb, (h3 i x u hx hu).2⟩⟩
theorem Rw.app {w w' : World} {base : Nat} {v v' u : Value} {recs : List (List Nat)} {ys : List Nat} {vs : List Value} (h1 : vs.length = recs.length) (h3 : ∀ (i : Nat) (x : List Nat) (u : Value), recs[i]? = some x → vs[i]? = some u → Ow w base u x ∧ ∀ b, v.ownBlock = some b → u.ownBlock ≠ some b)
    (hu : Ow w base u ys) (hub : ∀ b, v.ownBlock = some b → u.ownBlock ≠ some b) (o : w'.ownsRow base 34 1 v' (recs.length + 1) (vs ++ [u])) (k : Kp (fun b => v.ownBlock = some b) w w') (hv : v'.ownBlock = v.ownBlock ∨ v'.ownBlock = some w.heap.size) : Rw w' base v' (recs ++ [ys]) := by
  have key : ∀ x z, Ow w base z x → (∀ b, v.ownBlock = some b → z.ownBlock ≠ some b) → Ow w' base z x ∧ ∀ b, v'.ownBlock = some b → z.ownBlock ≠ some b := fun x z ho hb => by
    refine ⟨ownsRow_keep ho k (fun g e e2 => hb g e2 e), fun b e e2 => ?_⟩
    rcases hv with e9 | e9
    · exact hb b (e9.symm.trans e) e2
    · rw [e9] at e
      have := (ownBlock_lt ho e2).2
      injection e with e
      omega
  refine ⟨vs ++ [u], by rw [List.length_append]; exact o, by rw [List.length_append, List.length_append, h1]; rfl, fun i x z hx hz => ?_⟩
  by_cases hi : i < recs.length
  · rw [List.getElem?_append_left hi] at hx
    rw [List.getElem?_append_left (by omega)] at hz
    exact key x z (h3 i x z hx hz).1 (h3 i x z hx hz).2
  · have hi2 : i = recs.length := by
      have := (List.getElem?_eq_some_iff.1 hx).1
      rw [List.length_append] at this
      simp at this
      omega
    subst hi2
    rw [List.getElem?_append_right (Nat.le_refl _), Nat.sub_self] at hx
    rw [List.getElem?_append_right (by omega), h1, Nat.sub_self] at hz
    cases hx
    cases hz
    exact key _ _ hu hub

theorem infoTx : (Tryz.prog.info? 34).map (fun i => (i.zero, i.size, i.bytes)) = some (some (.slice none 0 0), 1, 24) := by kernel_rfl
/-- append of one text -/
theorem wpList_append_text {ops : Array Oper} {rest : List Oper} {o : Oper} {a : Act} {Q : Exit → Act → World → Prop} (w : World) (hgd : o.guard = none) (s y : Operand)
    (ho : o.op = .call { callee := .builtin .append, args := #[s, y], argTypes := #[22, 22] })
    (base : Nat) (v : Value) (n : Nat) (xs : List Value) (u : Value) (g : Nat) (hs : a.eval s = v) (hown : w.ownsRow base 34 1 v n xs) (hx : a.eval y = .slice (some ⟨g, 0, none⟩) 1 1) (hu1 : u.oneCell' = true) (hc : w.cell? ⟨g, 0, none⟩ = some u) (hlen : n ≤ 100000) (hbase : base ≤ w.heap.size)
    (h : ∀ v' w', w'.ownsRow base 34 1 v' (n + 1) (xs ++ [u]) → Kp (fun b => v.ownBlock = some b) w w' → (v'.ownBlock = v.ownBlock ∨ v'.ownBlock = some w.heap.size) → wpList Tryz.prog ops Q rest (a.put o.dst v') w') :
    wpList Tryz.prog ops Q (o :: rest) a w := by
  obtain ⟨ti, hi0, hz0, hz1, hz2⟩ := info_parts infoTx
  refine wpList_append_own_src w hgd s y 22 22 ho base 34 ti (.slice none 0 0) 1 24 Tryz.underlying22 hi0 hz0 hz1 hz2 rfl (by decide) v n xs hs hown _ 1 [u] hx
    (Src.ofSlice w Tryz.underlying22 ⟨g, 0, none⟩ 1 1 [u] (by simp) (fun j z hj => by
      have hj0 : j = 0 := by
        have := (List.getElem?_eq_some_iff.1 hj).1
        simp at this
        exact this
      subst hj0
      simp at hj
      subst hj
      simpa [Addr.add] using hc) (fun z hz => by
      simp at hz
      subst hz
      exact hu1)) (by unfold maxLen; omega) (by omega) hbase ?_
  intro v' w' h1 h2 h3
  exact h v' w' h1 (grownBy_kp h2) h3

theorem wrapFL {f l F : Nat} (h : F = f + l) (hF : (F : Int) ≤ 2000000000000000000) : wrap64 ((f : Int) + (l : Int)) = (F : Int) := by unfold wrap64; omega
theorem wrapSU {s u m : Nat} (h : m = s - u) (hu : u ≤ s) (hs : s ≤ 8192) : wrap64 ((s : Int) - (u : Int)) = (m : Int) := by unfold wrap64; omega

set_option maxRecDepth 100000 in
set_option maxHeartbeats 3200000 in
theorem records_ok {w : World} {bp d m n q s : Nat} {dur : List Nat} {T : Nat → Option (List Nat)} (h : Pt w bp d m n q dur T) (hs : n = 2 + s ∧ 1 ≤ s) (ha hb place first : Nat) (hp : (place : Int) ≤ 800000000000000000) (hf : (first : Int) ≤ 1800000000000000000) (ht : Turns w) :
    Calls Tryz.prog 194 #[ringV bp s, headV ha hb place first] w fun e w' => ∃ v, e = .returned (.tuple #[v, .int .i64 ((recsW (nowOf dur T) s place first (s + 1) 0 []).2 : Nat), .nilIface]) ∧ Kp (fun _ => False) w w' ∧ Rw w' w.heap.size v (recsW (nowOf dur T) s place first (s + 1) 0 []).1 := by
  obtain ⟨Z, hZ0⟩ : ∃ Z, Z = recsW (nowOf dur T) s place first (s + 1) 0 [] := ⟨_, rfl⟩
  have HZ : Hid (Z = recsW (nowOf dur T) s place first (s + 1) 0 []) := hZ0
  rw [← hZ0]
  clear hZ0
  have HP : Hid (Pt w bp d m n q dur T) := h
  have HT : Hid (Turns w) := ht
  have HN : Hid (n = 2 + s ∧ 1 ≤ s ∧ n ≤ 8192 ∧ (place : Int) ≤ 800000000000000000 ∧ (first : Int) ≤ 1800000000000000000) := ⟨hs.1, hs.2, h.n2, hp, hf⟩
  obtain ⟨r, hr⟩ : ∃ r, r = w.heap.size := ⟨_, rfl⟩
  obtain ⟨r2, hr2⟩ : ∃ r2, r2 = w.heap.size + 1 := ⟨_, rfl⟩
  obtain ⟨w0, hw0⟩ : ∃ y, y = (w.alloc (.cells #[.pointer (some ⟨bp, 0, none⟩), .int .i64 (s : Int)] 153)).alloc (.cells #[.int .i64 (ha : Int), .int .i64 (hb : Int), .int .i64 (place : Int), .int .i64 (first : Int)] 155) := ⟨_, rfl⟩
  have z1 : (w.alloc (.cells #[.pointer (some ⟨bp, 0, none⟩), .int .i64 (s : Int)] 153)).heap.size = w.heap.size + 1 := by simp
  have z2 : w0.heap.size = w.heap.size + 1 + 1 := by rw [hw0]; simp
  have HK0 : Hid (Kp (fun _ => False) w w0) := by rw [hw0]; exact ((Kp.refl _ _).alloc _).alloc _
  have HL0 : Hid (Lv w0 r [.pointer (some ⟨bp, 0, none⟩), .int .i64 (s : Int)]) := by rw [hw0, hr]; exact (Lv.new w _ _).keep ((Kp.refl (fun _ => False) _).alloc _) id
  have HL2 : Hid (Lv w0 r2 [.int .i64 (ha : Int), .int .i64 (hb : Int), .int .i64 (place : Int), .int .i64 (first : Int)]) := by rw [hw0, hr2, ← z1]; exact Lv.new _ _ _
  have HG : Hid (w.heap.size ≤ w0.heap.size) := by show _ ≤ _; omega
  have hnn := nil_neq
  have HI : Hid (∀ u S, Calls Tryz.prog 57 #[flt S 70, eno 70] u fun e w' => e = .returned (.bool true) ∧ Kp (fun _ => False) u w') := fun u S => is_flt S 70 70 u
  have HI0 : Hid (∀ u, Calls Tryz.prog 57 #[.nilIface, eno 70] u fun e w' => e = .returned (.bool false) ∧ w' = u) := fun u => is_nil 70 u
  clear z1 z2 h hs hp hf ht
  go_enter Tryz.func194, Tryz.ntmps194
  go_wp2_with fail
  rw [← hw0, ← hr2, ← hr]
  clear hw0 hr hr2
  go_loopg [7, 8] (s + 1) (fun gk vv uv wr => ∃ (f used : Nat) (acc : List (List Nat)) (v : Value), used ≤ s ∧ s + 1 ≤ f + used ∧ gk = f ∧ vv = v ∧ uv = .int .i64 used ∧ Hid (Kp (fun _ => False) w0 wr) ∧ Hid (Rw wr w0.heap.size v acc ∧ acc.length ≤ used) ∧ Hid (Z = recsW (nowOf dur T) s place first f used acc))
  case atStart => exact ⟨s + 1, 0, [], _, Nat.zero_le _, Nat.le_refl _, rfl, rfl, rfl, Kp.refl _ _, ⟨Rw.nil _ _, Nat.le_refl _⟩, HZ.out⟩
  case round =>
    obtain ⟨f, used, acc, v, hus, hfu, hgk, hvv, rfl, HK, HO, HR⟩ := hrel
    have hv2 := hvv.symm
    subst hv2
    obtain ⟨f9, hf9⟩ : ∃ f', f = f' + 1 := ⟨f - 1, by omega⟩
    subst hf9
    subst hgk
    have q0 := (HL0.out.keep HK.out id).cell (j := 0) rfl
    have q1 := (HL0.out.keep HK.out id).cell (j := 1) rfl
    have q2 := (HL2.out.keep HK.out id).cell (j := 2) rfl
    have q3 := (HL2.out.keep HK.out id).cell (j := 3) rfl
    have HKw : Hid (Kp (fun _ => False) w wr) := HK0.out.trans HK.out (fun _ _ e => e)
    obtain ⟨vs, hvs1, hvs2, hvs3⟩ := HO.out.1
    obtain ⟨L, hL⟩ : ∃ L, L = acc.length := ⟨_, rfl⟩
    rw [← hL] at hvs1
    have HLe : Hid (L = acc.length ∧ L ≤ used) := ⟨hL, by rw [hL]; exact HO.out.2⟩
    have HV : Hid (wr.ownsRow w0.heap.size 34 1 v L vs) := hvs1
    have HVs : Hid (vs.length = acc.length ∧ ∀ (i : Nat) (x : List Nat) (u : Value), acc[i]? = some x → vs[i]? = some u → Ow wr w0.heap.size u x ∧ ∀ b, v.ownBlock = some b → u.ownBlock ≠ some b) := ⟨hvs2, hvs3⟩
    obtain ⟨pv, cv, hv⟩ : ∃ p c, v = .slice p L c := by
      rcases Joins.ownsRow_forms hvs1 with ⟨e1, e2⟩ | ⟨g, c, e⟩
      · exact ⟨none, 0, by rw [e1, e2]⟩
      · exact ⟨_, c, e⟩
    subst hv
    obtain ⟨E, hE⟩ : ∃ E, E = place + used := ⟨_, rfl⟩
    obtain ⟨F, hF⟩ : ∃ F, F = first + L := ⟨_, rfl⟩
    obtain ⟨mo, hmo⟩ : ∃ mo, mo = s - used := ⟨_, rfl⟩
    obtain ⟨S, hS⟩ : ∃ S : Int, S = ((2 + E % s : Nat) : Int) := ⟨_, rfl⟩
    have HRec : Hid (Calls _ _ _ wr _) := record_ok (HP.out.keep0 HKw.out) ⟨HN.out.1, HN.out.2.1⟩ E mo (F : Int) (by have := HN.out; omega) (fun j hj => HKw.out.cellv (HT.out j hj) id)
    obtain ⟨O, hO⟩ : ∃ O, O = recW (nowOf dur T) s E (F : Int) (min mo 50) 0 [] := ⟨_, rfl⟩
    rw [← hO, ← hS] at HRec
    have HSt : Hid (Z = stepRs (nowOf dur T) s place first f9 used acc O) := by
      show _ = _
      rw [HR.out, recsW_succ, hO, hE, hF, hmo, hL]
    have HOl : Hid (∀ ys, O = some ys → 1 ≤ ys.length ∧ (ys.length + 39) / 40 ≤ s - used ∧ ys.length ≤ 2000) := fun ys hy => by
      have := recW_len _ 0 [] ys rfl (hO.symm.trans hy)
      omega
    have HW : Hid (wrap64 ((place : Int) + (used : Int)) = (E : Int) ∧ wrap64 ((first : Int) + (L : Int)) = (F : Int) ∧ wrap64 ((s : Int) - (used : Int)) = (mo : Int)) := ⟨(wrapPl hE (by have := HN.out; omega)).1, wrapFL hF (by have := HN.out; have := HLe.out.2; omega), wrapSU hmo hus (by have := HN.out; omega)⟩
    clear hvs1 hvs2 hvs3 hL hE hF hmo hS hO
    obtain ⟨hw1, hw2, hw3⟩ := HW.out
    go_wp2_with fail
    refine HRec.out.mono ?_
    rintro e9 w1 ⟨res, k1⟩
    have HK1 : Hid (Kp (fun _ => False) wr w1) := k1
    clear k1 HRec q0 q1 q2 q3 hw1 hw2 hw3
    cases O with
    | none =>
      have he : e9 = .returned (.tuple #[.slice none 0 0, flt S 70]) := res
      subst he
      have HZz : Hid (Z = (acc, used)) := HSt.out
      clear res HSt HOl
      go_wp2_with fail
      refine (HI.out _ _).mono ?_
      rintro e9 w2 ⟨rfl, k2⟩
      have HK2 : Hid (Kp (fun _ => False) wr w2) := HK1.out.trans k2 (fun _ _ e => e)
      clear k2
      go_wp2
      go_ret3
      rw [HZz.out]
      exact ⟨_, rfl, HKw.out.trans HK2.out (fun _ _ e => e), (HO.out.1.keep0 HK2.out).base HG.out⟩
    | some ys =>
      obtain ⟨u, ou, he⟩ := res
      subst he
      obtain ⟨N9, hN9⟩ : ∃ N, N = ys.length := ⟨_, rfl⟩
      obtain ⟨K9, hK9⟩ : ∃ K, K = (N9 + 39) / 40 := ⟨_, rfl⟩
      obtain ⟨U, hU⟩ : ∃ U, U = used + K9 := ⟨_, rfl⟩
      obtain ⟨l1, l2, l3⟩ := HOl.out ys rfl
      rw [← hN9] at l1 l2 l3
      rw [← hK9] at l2
      have HBd : Hid (1 ≤ K9 ∧ K9 ≤ s - used ∧ N9 ≤ 2000 ∧ U = used + K9) := ⟨by omega, l2, l3, hU⟩
      obtain ⟨pu, cu, hu⟩ := own_form ou
      rw [← hN9] at hu
      subst hu
      have HOu : Hid (Ow w1 wr.heap.size (.slice pu N9 cu) ys) := ou
      have HWu : Hid (wrap64 ((used : Int) + (K9 : Int)) = (U : Int)) := (wrapPl hU (by have := HN.out; have := HBd.out; omega)).1
      have HZz : Hid (Z = recsW (nowOf dur T) s place first f9 U (acc ++ [ys])) := by
        show _ = _
        rw [hU, hK9, hN9]
        exact HSt.out
      have HSec : Hid (∀ u, Calls Tryz.prog 126 #[.slice pu N9 cu] u fun e w' => e = .returned (.int .i64 (K9 : Int)) ∧ w' = u) := fun u => sectorsOf_ok pu N9 cu K9 hK9 (by have := HBd.out; omega) u
      obtain ⟨w3, hw3⟩ : ∃ y, y = w1.alloc (.cells #[.slice pu N9 cu] 34) := ⟨_, rfl⟩
      have k3 : Kp (fun _ => False) w1 w3 := by rw [hw3]; exact (Kp.refl _ _).alloc _
      have HK3 : Hid (Kp (fun _ => False) wr w3) := HK1.out.trans k3 (fun _ _ e => e)
      have HO3 : Hid (w3.ownsRow w0.heap.size 34 1 (.slice pv L cv) L vs) := ownsRow_keep HV.out HK3.out (fun _ _ e => e)
      have HC3 : Hid (w3.cell? ⟨w1.heap.size, 0, none⟩ = some (.slice pu N9 cu)) := by
        have l3 : Lv w3 w1.heap.size [.slice pu N9 cu] := by rw [hw3]; exact Lv.new _ _ _
        exact l3.cell (j := 0) rfl
      have HU3 : Hid (Ow w3 w0.heap.size (.slice pu N9 cu) ys ∧ ∀ b, (Value.slice pv L cv).ownBlock = some b → (Value.slice pu N9 cu).ownBlock ≠ some b) := ⟨ownsRow_base (ownsRow_keep HOu.out k3 (fun _ _ e => e)) HK.out.size, fun b e1 e2 => by
        have h1 := (ownBlock_lt HV.out e1).2
        have h2 := (ownBlock_lt HOu.out e2).1
        omega⟩
      have HB3 : Hid (w0.heap.size ≤ w3.heap.size) := Nat.le_trans HK.out.size HK3.out.size
      clear ou l1 l2 l3 hN9 hK9 hU HSt HOl k3
      go_wp2_with fail
      refine (HI0.out _).mono ?_
      rintro e9 w2 ⟨rfl, hw2⟩
      have hw8 := hw2.symm
      subst hw8
      clear hw2
      have hwu := HWu.out
      go_wp2_with (first
        | (refine wpList_append_text (w1.alloc (.cells #[.slice pu N9 cu] 34)) rfl _ _ rfl w0.heap.size (.slice pv L cv) L vs (.slice pu N9 cu) w1.heap.size rfl (by rw [← hw3]; exact HO3.out) rfl rfl (by rw [← hw3]; exact HC3.out) (by have := HLe.out; have := HN.out; omega) (by rw [← hw3]; exact HB3.out) ?_; intro v5 w5 o5 k5 hv5; rw [← hw3] at k5 hv5))
      refine (HSec.out _).mono ?_
      rintro e9 w6 ⟨rfl, hw6⟩
      have hw8 := hw6.symm
      subst hw8
      clear hw6
      have HF : Hid (Kp (fun _ => False) w0 w5 ∧ Rw w5 w0.heap.size v5 (acc ++ [ys]) ∧ (acc ++ [ys]).length ≤ U) := by
        refine ⟨Kp.app (HK.out.trans HK3.out (fun _ _ e => e)) HO3.out k5, ?_, ?_⟩
        · rw [HLe.out.1] at o5
          exact Rw.app HVs.out.1 (fun i x u hx hu => ⟨ownsRow_keep (HVs.out.2 i x u hx hu).1 HK3.out (fun _ _ e => e), (HVs.out.2 i x u hx hu).2⟩) HU3.out.1 HU3.out.2 o5 k5 hv5
        · rw [List.length_append]
          have := HO.out.2
          have := HBd.out
          simp
          omega
      clear o5 k5 hv5 hwu hw3
      have hwu := HWu.out
      go_wp2
      go_roundg f9
      case rel =>
        clear hwu
        exact ⟨f9, U, acc ++ [ys], v5, by have := HBd.out; omega, by have := HBd.out; omega, rfl, rfl, by first | rfl | rw [HWu.out], HF.out.1, HF.out.2, HZz.out⟩
      case measure => omega
end Go.Proofs.YtmooddbhcccicaaGreatDoor

/- The verifier's written: a plate of six sectors, of which some were written. -/
namespace Go.Proofs.YtmooddbhcccicaaGreatDoor
open Go.RowKit Go.Deep Go.Maps

/-- the calls of a list, as they lie -/
structure Dos (w : World) (v : Value) (L : Nat) : Prop where
  form : ∃ (g : Option Addr) (gb go cap : Nat), v = .slice g L cap ∧ (0 < L → g = some ⟨gb, go, none⟩) ∧ ∀ r, r < L → ∃ (op i tn nn : Int) (p : Option Addr) (nb cb : Nat) (xs : List Nat) (pk : Option Addr) (nk ck : Nat),
    w.cell? ⟨gb, go + r * 6, none⟩ = some (.int .i64 op) ∧ w.cell? ⟨gb, go + r * 6 + 1, none⟩ = some (.int .i64 i) ∧ w.cell? ⟨gb, go + r * 6 + 2, none⟩ = some (.int .i64 tn) ∧ w.cell? ⟨gb, go + r * 6 + 3, none⟩ = some (.int .i64 nn) ∧
    w.cell? ⟨gb, go + r * 6 + 4, none⟩ = some (.slice p nb cb) ∧ w.cell? ⟨gb, go + r * 6 + 5, none⟩ = some (.slice pk nk ck) ∧ Rb w p nb xs
  many : (L : Int) ≤ 9223372036854775807

/-- texts of 64 bytes each, in blocks of their own -/
structure Nows (w : World) (b d m t n : Nat) (V : Nat → Value) (N : Nat → List Nat) : Prop where
  top : w.rowIs t 34 n V
  row : ∀ r, r < n → ∃ bb o c, V r = .slice (some ⟨bb, o, none⟩) 64 c ∧ Rb w (some ⟨bb, o, none⟩) 64 (N r) ∧ bb ≠ t ∧ bb ≠ d ∧ bb ≠ m ∧ bb ≠ b
  tb : t ≠ b ∧ t ≠ d ∧ t ≠ m
theorem Nows.keep {S : Nat → Prop} {w w' : World} {b d m t n : Nat} {V : Nat → Value} {N : Nat → List Nat} (h : Nows w b d m t n V N) (k : Kp S w w') (hS : ∀ x, S x → x = b ∨ x = d ∨ x = m) : Nows w' b d m t n V N := by
  refine ⟨k.row h.top (fun e => by have h1 := hS _ e; obtain ⟨h2, h3, h4⟩ := h.tb; rcases h1 with h1 | h1 | h1 <;> contradiction), fun r hr => ?_, h.tb⟩
  obtain ⟨bb, o, c, h1, h2, h3, h4, h5, h6⟩ := h.row r hr
  exact ⟨bb, o, c, h1, h2.keep k (fun a ha _ e => by cases ha; have h1 := hS _ e; dsimp only at h1; rcases h1 with h1 | h1 | h1 <;> contradiction), h3, h4, h5, h6⟩

theorem info42 : (Tryz.prog.info? 34).map (fun i => (i.zero, i.size, i.bytes)) = some (some (.slice none 0 0), 1, 24) := by kernel_rfl

/-- what a copy of bytes leaves in 64 noughts -/
def cp64 (xs : List Nat) : List Nat := (xs ++ List.replicate 64 0).take 64
theorem cp64_sec {xs : List Nat} (h : ∀ x ∈ xs, x < 256) : Sec (cp64 xs) := by
  refine ⟨by simp [cp64], fun x hx => ?_⟩
  rcases List.mem_append.1 (List.mem_of_mem_take hx) with hx | hx
  · exact h x hx
  · rw [List.eq_of_mem_replicate hx]; omega
theorem cp64_get (xs : List Nat) {j : Nat} (hj : j < 64) : (cp64 xs).getD j 0 = if j < xs.length then xs.getD j 0 else 0 := by
  unfold cp64
  rw [List.getD_eq_getElem?_getD, List.getElem?_take_of_lt hj]
  by_cases h : j < xs.length
  · rw [if_pos h, List.getElem?_append_left h, List.getD_eq_getElem?_getD]
  · rw [if_neg h, List.getElem?_append_right (by omega), List.getElem?_replicate]
    split <;> rfl
theorem wpList_copy_64 {w : World} {ops : Array Oper} {rest : List Oper} {o : Oper} {a : Act} {Q : Exit → Act → World → Prop} (hgd : o.guard = none) (dd s : Operand)
    (ho : o.op = .call { callee := .builtin .copy, args := #[dd, s], argTypes := #[34, 34] }) (d : Nat) (p : Option Addr) (nb cb : Nat) (hd : a.eval dd = .slice (some ⟨d, 0, none⟩) 64 64) (hs : a.eval s = .slice p nb cb)
    (hg : w.rowIs d 5 64 (fun _ => .int .u8 0)) (xs : List Nat) (hr : Rb w p nb xs)
    (h : ∀ w', Kp (fun b => b = d) w w' → Rb w' (some ⟨d, 0, none⟩) 64 (cp64 xs) → wpList Tryz.prog ops Q rest (a.put o.dst (goInt (Nat.min nb 64))) w') : wpList Tryz.prog ops Q (o :: rest) a w := by
  have hfin : ∀ w', w'.rowIs d 5 64 (fun j => if 0 ≤ j ∧ j < 0 + Nat.min nb 64 then .int .u8 ((xs.getD (j - 0) 0 : Nat) : Int) else .int .u8 0) → Rb w' (some ⟨d, 0, none⟩) 64 (cp64 xs) := fun w' hr' =>
    ⟨(cp64_sec hr.byte).1, (cp64_sec hr.byte).2, fun j hj => ⟨d, 0, rfl, by
      have hmin : Nat.min nb 64 = min nb 64 := rfl
      rw [Nat.zero_add, hr'.cell hj, cp64_get xs hj, hr.len]
      by_cases h1 : j < nb
      · rw [if_pos ⟨Nat.zero_le _, by rw [hmin]; omega⟩, if_pos h1]; rfl
      · rw [if_neg (by rw [hmin]; omega), if_neg h1]; rfl⟩⟩
  by_cases h0 : nb = 0
  · subst h0
    obtain ⟨ii, hi, hz⟩ := Option.map_eq_some_iff.1 info5
    simp only [Prod.mk.injEq] at hz
    have hrun : (Builtin.copy_ #[34, 34] o.type #[.slice (some ⟨d, 0, none⟩) 64 64, .slice p 0 cb]).run Tryz.prog w = .ok (goInt 0) w := by
      cases p <;> simp [Builtin.copy_, run_underlying Tryz.underlying34, sizeOf, typeInfo, hi, Builtin.lenOf, Builtin.firstCells, loadCells, loadCellsFrom, storeCells]
    refine wpList_plain hgd fun K hK => ?_
    unfold Oper.wp
    simp [execOp, ho, resolve, invoke, builtin, hd, hs, hrun, Result.andThen]
    exact hK _ _ (h w (Kp.refl _ _) (hfin w (hg.congr (fun j _ => by rw [if_neg (by simp)]))))
  · obtain ⟨bb, oo, rfl, hcell⟩ := hr.pt (by omega)
    have hmin : Nat.min nb 64 = min nb 64 := rfl
    have hr2 : Rb w (some ⟨bb, oo, none⟩) (Nat.min nb 64) (xs.take (Nat.min nb 64)) :=
      ⟨by rw [List.length_take, hr.len, hmin]; omega, fun x hx => hr.byte x (List.mem_of_mem_take hx), fun j hj => ⟨bb, oo, rfl, by
        rw [hcell j (by rw [hmin] at hj; omega), List.getD_eq_getElem?_getD, List.getD_eq_getElem?_getD, List.getElem?_take_of_lt hj]⟩⟩
    refine wpList_copy_sec hgd dd s ho d 0 64 bb oo cb nb (Nat.min nb 64) rfl hd hs 64 _ hg (Nat.le_refl _) _ hr2 ?_
    intro w' k' _ r'
    refine h w' k' (hfin w' (r'.congr (fun j hj => ?_)))
    by_cases h1 : 0 ≤ j ∧ j < 0 + Nat.min nb 64
    · rw [if_pos h1, if_pos h1, List.getD_eq_getElem?_getD, List.getD_eq_getElem?_getD, List.getElem?_take_of_lt (by omega)]
    · rw [if_neg h1, if_neg h1]

theorem nowOf_sync {w : World} {b d m n q : Nat} {dur : List Nat} {T : Nat → Option (List Nat)} (h : Pt w b d m n q dur T) {i : Nat} (hi : i < n) : nowOf (durAll dur T n) (fun _ => none) i = nowOf dur T i := by
  have hl : (durAll dur T n).length = n * 64 := by simp [durAll]
  have hget : ∀ j, j < n * 64 → (durAll dur T n)[j]? = some (Sf dur T (fun _ => false) j) := fun j hj => by unfold durAll; rw [List.getElem?_map, List.getElem?_range hj]; rfl
  obtain ⟨D, _, hDD, _⟩ := h.mp
  have key : ∀ ys : List Nat, ys.length = 64 → (∀ j, j < 64 → ys[j]? = some (Sf dur T (fun _ => false) (i * 64 + j))) → (((durAll dur T n).drop (i * 64)).take 64) = ys := fun ys hy hj => by
    apply List.ext_getElem?
    intro j
    by_cases h64 : j < 64
    · rw [List.getElem?_take_of_lt h64, List.getElem?_drop, hget _ (by omega), hj j h64]
    · rw [List.getElem?_eq_none (by rw [List.length_take]; omega), List.getElem?_eq_none (by omega)]
  unfold nowOf
  show ((durAll dur T n).drop (i * 64)).take 64 = _
  cases hT : T i with
  | none =>
    show _ = (dur.drop (i * 64)).take 64
    refine key _ (h.durSec hi).1 (fun j hj => ?_)
    rw [List.getElem?_take_of_lt hj, List.getElem?_drop]
    unfold Sf
    rw [show (i * 64 + j) / 64 = i from by omega, hT]
    show _ = some (dur.getD (i * 64 + j) 0)
    rw [List.getD_eq_getElem?_getD, List.getElem?_eq_getElem (by rw [h.len]; omega)]; rfl
  | some xs =>
    have hs := ((hDD i hi).2 xs hT).1
    show _ = xs
    refine key _ hs.1 (fun j hj => ?_)
    unfold Sf
    rw [show (i * 64 + j) / 64 = i from by omega, hT, show (i * 64 + j) % 64 = j from by omega]
    simp only [Bool.false_eq_true, if_false]
    rw [List.getD_eq_getElem?_getD, List.getElem?_eq_getElem (by rw [hs.1]; exact hj)]; rfl

/-- what written leaves -/
def Wst (w w' : World) (b d m q t : Nat) : Prop := Kp (fun _ => False) w w' ∧ (q : Int) ≤ 9223372036854775807 ∧ w.heap.size ≤ b ∧ w.heap.size ≤ d ∧ w.heap.size ≤ m ∧ w.heap.size ≤ t ∧
  ∃ (V : Nat → Value) (N : Nat → List Nat) (dur : List Nat) (T : Nat → Option (List Nat)), Pt w' b d m 6 q dur T ∧ Nows w' b d m t 6 V N ∧ ∀ i, i < 6 → N i = nowOf dur T i
def m6 (n : Int) : Nat := ((n % 18446744073709551616) % 6).toNat
theorem m6_lt (n : Int) : (m6 n : Int) < 6 := by unfold m6; omega
theorem m6_eq (n : Int) : wrap64 ((IntKind.u64.wrap n).tmod 6) = (m6 n : Int) := by
  have h : IntKind.u64.wrap n = n % 18446744073709551616 := by simp [IntKind.wrap, IntKind.bits, IntKind.signed]
  rw [h]
  have h0 : 0 ≤ n % 18446744073709551616 := Int.emod_nonneg _ (by omega)
  rw [Int.tmod_eq_emod_of_nonneg h0]
  unfold m6 wrap64
  omega
theorem Nows.put {w w' : World} {b d m t n : Nat} {V : Nat → Value} {N : Nat → List Nat} {i g c : Nat} {xs : List Nat} (h : Nows w b d m t n V N) (_hi : i < n) (hr : Rb w (some ⟨g, 0, none⟩) 64 xs) (hg : g ≠ t ∧ g ≠ d ∧ g ≠ m ∧ g ≠ b) (hw : w' = w.setCell ⟨t, i, none⟩ (.slice (some ⟨g, 0, none⟩) 64 c)) :
    Nows w' b d m t n (fun j => if j = i then .slice (some ⟨g, 0, none⟩) 64 c else V j) (fun j => if j = i then xs else N j) := by
  have ks : Kp (fun x => x = t) w w' := by rw [hw]; exact (Kp.refl (fun x => x = t) w).setCell (a := ⟨t, i, none⟩) (fun _ => rfl) _
  refine ⟨by rw [hw]; exact h.top.set i _, fun r hr' => ?_, h.tb⟩
  by_cases e : r = i
  · simp only [if_pos e]
    exact ⟨g, 0, c, rfl, hr.keep ks (fun a ha _ e => by cases ha; exact hg.1 e), hg⟩
  · simp only [if_neg e]
    obtain ⟨bb, o, c, h1, h2, h3, h4⟩ := h.row r hr'
    exact ⟨bb, o, c, h1, h2.keep ks (fun a ha _ e => by cases ha; exact h3 e), h3, h4⟩

end Go.Proofs.YtmooddbhcccicaaGreatDoor

/- What a record's sector, and a head, say when they are read (plain). -/
namespace Go.Proofs.YtmooddbhcccicaaGreatDoor
set_option linter.unusedVariables false
set_option linter.unusedSimpArgs false
open Go.RowKit Go.Deep

theorem getD_app1 {l m : List Nat} {j : Nat} (h : j < l.length) : (l ++ m).getD j 0 = l.getD j 0 := by
  rw [List.getD_eq_getElem?_getD, List.getD_eq_getElem?_getD, List.getElem?_append_left h]
theorem getD_app2 {l m : List Nat} {j : Nat} (h : l.length ≤ j) : (l ++ m).getD j 0 = m.getD (j - l.length) 0 := by
  rw [List.getD_eq_getElem?_getD, List.getD_eq_getElem?_getD, List.getElem?_append_right h]
theorem nouW_len (n : Nat) : (nouW n).length = n := by unfold nouW; exact List.length_replicate
theorem nouW_get (n j : Nat) : (nouW n).getD j 0 = 0 := by
  unfold nouW
  rw [List.getD_eq_getElem?_getD, List.getElem?_replicate]
  split <;> rfl
theorem sealB_len {xs : List Nat} (h : xs.length = 64) : (sealB xs).length = 64 := by
  unfold sealB
  simp [big_length, h]
theorem sealB_get {xs : List Nat} (h : xs.length = 64) {j : Nat} (hj : j < 59) : (sealB xs).getD j 0 = xs.getD j 0 := by
  unfold sealB
  rw [List.append_assoc, getD_app1 (by rw [List.length_take, h]; omega), getD_take0 _ _ _ hj]
theorem sealB_last {xs : List Nat} (h : xs.length = 64) : (sealB xs).getD 63 0 = 167 := by
  unfold sealB
  rw [getD_app2 (by rw [List.length_append, List.length_take, big_length, h]; decide)]
  rw [List.length_append, List.length_take, big_length, h]
  rfl
theorem pcP_len {u : Nat} {ys : List Nat} {f l : Bool} (h : ys.length ≤ 40) : (pcP u ys f l).length = 64 := by
  have h1 : (spl ((nouW 64).set 0 114) 1 (big u 8)).length = 64 := by rw [spl_len (by rw [List.length_set, nouW_len, big_length]; omega), List.length_set, nouW_len]
  unfold pcP
  rw [spl_len (by rw [List.length_set, List.length_set, List.length_set, h1]; omega), List.length_set, List.length_set, List.length_set, h1]
theorem pcP_get {u : Nat} {ys : List Nat} {f l : Bool} (h : ys.length ≤ 40) (j : Nat) : (pcP u ys f l).getD j 0 = if 12 ≤ j ∧ j < 12 + ys.length then ys.getD (j - 12) 0 else if j = 11 then l.toNat else if j = 10 then f.toNat else if j = 9 then ys.length else if 1 ≤ j ∧ j < 1 + 8 then (big u 8).getD (j - 1) 0 else if j = 0 then 114 else 0 := by
  have h1 : (spl ((nouW 64).set 0 114) 1 (big u 8)).length = 64 := by rw [spl_len (by rw [List.length_set, nouW_len, big_length]; omega), List.length_set, nouW_len]
  unfold pcP
  rw [spl_get (by rw [List.length_set, List.length_set, List.length_set, h1]; omega)]
  rw [getD_set0 _ _ _ _ (by rw [List.length_set, List.length_set, h1]; omega), getD_set0 _ _ _ _ (by rw [List.length_set, h1]; omega), getD_set0 _ _ _ _ (by rw [h1]; omega)]
  rw [spl_get (by rw [List.length_set, nouW_len, big_length]; omega), getD_set0 _ _ _ _ (by rw [nouW_len]; omega), nouW_get, big_length]
theorem mid_eq {xs ys : List Nat} {o : Nat} (h : o + ys.length ≤ xs.length) (hg : ∀ j, j < ys.length → xs.getD (o + j) 0 = ys.getD j 0) : (xs.drop o).take ys.length = ys := by
  refine list_ext0 (by rw [List.length_take, List.length_drop]; omega) fun j hj => ?_
  rw [List.length_take, List.length_drop] at hj
  rw [getD_take0 _ _ _ (by omega), ← hg j (by omega), List.getD_eq_getElem?_getD, List.getD_eq_getElem?_getD, List.getElem?_drop]
theorem numAt_eq {xs : List Nat} {o u : Nat} (hu : u < 9223372036854775808) (h : o + 8 ≤ xs.length) (hg : ∀ j, j < 8 → xs.getD (o + j) 0 = (big u 8).getD j 0) : numAt xs o = (u : Int) := by
  have h1 := mid_eq (ys := big u 8) (by rw [big_length]; exact h) (fun j hj => hg j (by rw [big_length] at hj; exact hj))
  rw [big_length] at h1
  unfold numAt
  rw [h1, hfW_big 8 u (Nat.lt_trans hu (by decide))]
  unfold i64Of
  rw [if_pos hu]
theorem pcB_say {u : Nat} {ys : List Nat} {f l : Bool} (hu : u < 9223372036854775808) (h : ys.length ≤ 40) : numAt (pcB u ys f l) 1 = (u : Int) ∧ bytP (pcB u ys f l) = ys ∧ fstP (pcB u ys f l) = f ∧ lstP (pcB u ys f l) = l := by
  have hl := pcP_len (u := u) (f := f) (l := l) h
  have hsl := sealB_len hl
  have hg : ∀ j, j < 59 → (pcB u ys f l).getD j 0 = (pcP u ys f l).getD j 0 := fun j hj => sealB_get hl hj
  have h9 : (pcB u ys f l).getD 9 0 = ys.length := by
    rw [hg 9 (by decide), pcP_get h, if_neg (by omega), if_neg (by omega), if_neg (by omega), if_pos rfl]
  have hc : cntP (pcB u ys f l) = ys.length := by unfold cntP; rw [h9]; omega
  refine ⟨numAt_eq hu (by show 1 + 8 ≤ (sealB _).length; omega) fun j hj => ?_, ?_, ?_, ?_⟩
  · rw [hg _ (by omega), pcP_get h, if_neg (by omega), if_neg (by omega), if_neg (by omega), if_neg (by omega), if_pos (by omega)]
    rw [show 1 + j - 1 = j by omega]
  · unfold bytP
    rw [hc]
    refine mid_eq (by show 12 + ys.length ≤ (sealB _).length; omega) fun j hj => ?_
    rw [hg _ (by omega), pcP_get h, if_pos (by omega)]
    rw [show 12 + j - 12 = j by omega]
  · unfold fstP
    rw [hg 10 (by decide), pcP_get h, if_neg (by omega), if_neg (by omega), if_pos rfl]
    cases f <;> rfl
  · unfold lstP
    rw [hg 11 (by decide), pcP_get h, if_neg (by omega), if_pos rfl]
    cases l <;> rfl
theorem u64Of_nat {u : Nat} (hu : u < 9223372036854775808) : u64Of (u : Int) = u := by
  unfold u64Of
  omega
/-- a sector that is written is the right one for its own place alone -/
theorem okR_pcB {u : Nat} {ys : List Nat} {f l : Bool} (hu : u < 9223372036854775808) (h : 1 ≤ ys.length ∧ ys.length ≤ 40) (hl : l = true ∨ ys.length = 40) (i : Nat) (hf : f = decide (i = 0)) : okR (pcB u ys f l) (u : Int) i = true := by
  obtain ⟨e1, e2, e3, e4⟩ := pcB_say (f := f) (l := l) hu h.2
  unfold okR rightP
  rw [e1, e2, e3, e4, u64Of_nat hu, decide_eq_true h.1, decide_eq_true rfl, decide_eq_true rfl, decide_eq_true hf]
  rcases hl with hl | hl
  · rw [hl]; rfl
  · rw [decide_eq_true hl, Bool.or_true]; rfl
/-- what is never a record's sector -/
def Bad (b : List Nat) : Prop := ∀ num i, okR b num i = false
theorem Bad.of_last {b : List Nat} (h : b.getD 63 0 ≠ 167) : Bad b := fun num i => by
  cases ho : okR b num i with
  | false => rfl
  | true =>
    obtain ⟨_, _, h3⟩ := okR_len ho
    unfold okR rightP at ho
    simp only [Bool.and_eq_true, decide_eq_true_eq] at ho
    exact absurd (by rw [ho.1.2.2]; exact sealB_last (pcP_len h3)) h
theorem bad_nou : Bad (nouW 64) := Bad.of_last (by rw [nouW_get]; decide)
theorem bad_torn {xs : List Nat} {c : Nat} (hc : c ≤ 63) (hx : xs.length = 64) : Bad (xs.take c ++ (nouW 64).drop c) := Bad.of_last (by
  rw [getD_app2 (by rw [List.length_take]; omega)]
  unfold nouW
  rw [List.drop_replicate]
  rw [List.getD_eq_getElem?_getD, List.getElem?_replicate]
  split <;> decide)

theorem hdP_len (a b c d : Nat) : (hdP a b c d).length = 64 := by
  unfold hdP
  have h1 : (spl ((nouW 64).set 0 104) 1 (big a 8)).length = 64 := by rw [spl_len (by rw [List.length_set, nouW_len, big_length]; omega), List.length_set, nouW_len]
  have h2 : (spl (spl ((nouW 64).set 0 104) 1 (big a 8)) 9 (big b 8)).length = 64 := by rw [spl_len (by rw [h1, big_length]; omega), h1]
  have h3 : (spl (spl (spl ((nouW 64).set 0 104) 1 (big a 8)) 9 (big b 8)) 17 (big c 8)).length = 64 := by rw [spl_len (by rw [h2, big_length]; omega), h2]
  rw [spl_len (by rw [h3, big_length]; omega), h3]
theorem hdP_get (a b c d j : Nat) : (hdP a b c d).getD j 0 = if 25 ≤ j ∧ j < 25 + 8 then (big d 8).getD (j - 25) 0 else if 17 ≤ j ∧ j < 17 + 8 then (big c 8).getD (j - 17) 0 else if 9 ≤ j ∧ j < 9 + 8 then (big b 8).getD (j - 9) 0 else if 1 ≤ j ∧ j < 1 + 8 then (big a 8).getD (j - 1) 0 else if j = 0 then 104 else 0 := by
  unfold hdP
  have h1 : (spl ((nouW 64).set 0 104) 1 (big a 8)).length = 64 := by rw [spl_len (by rw [List.length_set, nouW_len, big_length]; omega), List.length_set, nouW_len]
  have h2 : (spl (spl ((nouW 64).set 0 104) 1 (big a 8)) 9 (big b 8)).length = 64 := by rw [spl_len (by rw [h1, big_length]; omega), h1]
  have h3 : (spl (spl (spl ((nouW 64).set 0 104) 1 (big a 8)) 9 (big b 8)) 17 (big c 8)).length = 64 := by rw [spl_len (by rw [h2, big_length]; omega), h2]
  rw [spl_get (by rw [h3, big_length]; omega), spl_get (by rw [h2, big_length]; omega), spl_get (by rw [h1, big_length]; omega), spl_get (by rw [List.length_set, nouW_len, big_length]; omega), getD_set0 _ _ _ _ (by rw [nouW_len]; omega), nouW_get, big_length, big_length, big_length, big_length]
theorem sayH_hdB {a b c d : Nat} (ha : a < 9223372036854775808) (hb : b < 9223372036854775808) (hc : c < 9223372036854775808) (hd : d < 9223372036854775808) : sayH (hdB a b c d) = ⟨a, b, c, d⟩ := by
  have hl := hdP_len a b c d
  have hsl := sealB_len hl
  have hg : ∀ j, j < 59 → (hdB a b c d).getD j 0 = (hdP a b c d).getD j 0 := fun j hj => sealB_get hl hj
  have e1 : numAt (hdB a b c d) 1 = (a : Int) := numAt_eq ha (by show 1 + 8 ≤ (sealB _).length; omega) fun j hj => by
    rw [hg _ (by omega), hdP_get, if_neg (by omega), if_neg (by omega), if_neg (by omega), if_pos (by omega), show 1 + j - 1 = j by omega]
  have e2 : numAt (hdB a b c d) 9 = (b : Int) := numAt_eq hb (by show 9 + 8 ≤ (sealB _).length; omega) fun j hj => by
    rw [hg _ (by omega), hdP_get, if_neg (by omega), if_neg (by omega), if_pos (by omega), show 9 + j - 9 = j by omega]
  have e3 : numAt (hdB a b c d) 17 = (c : Int) := numAt_eq hc (by show 17 + 8 ≤ (sealB _).length; omega) fun j hj => by
    rw [hg _ (by omega), hdP_get, if_neg (by omega), if_pos (by omega), show 17 + j - 17 = j by omega]
  have e4 : numAt (hdB a b c d) 25 = (d : Int) := numAt_eq hd (by show 25 + 8 ≤ (sealB _).length; omega) fun j hj => by
    rw [hg _ (by omega), hdP_get, if_pos (by omega), show 25 + j - 25 = j by omega]
  unfold sayH
  rw [e1, e2, e3, e4]
theorem cntB_nat {a : Nat} (h : 1 ≤ a ∧ a ≤ 1152921504606846976) : cntB (a : Int) = true := by
  unfold cntB
  rw [decide_eq_true (by omega), decide_eq_true (by omega)]
  rfl
theorem okH_hdB {a b c d i s : Nat} (ha : 1 ≤ a ∧ a ≤ 1152921504606846976) (hb : 1 ≤ b ∧ b ≤ 1152921504606846976) (hc : c < s) (hs : s ≤ 8192) (hd : 1 ≤ d ∧ d ≤ 1152921504606846976) (hi : a % 2 = i) : okH (hdB a b c d) i s = true := by
  unfold okH
  rw [sayH_hdB (by omega) (by omega) (by omega) (by omega)]
  unfold rightH
  rw [cntB_nat ha, cntB_nat hb, cntB_nat hd, decide_eq_true (show (0 : Int) ≤ (c : Int) by omega), decide_eq_true (show (c : Int) < (s : Int) by omega)]
  rw [decide_eq_true (by simp)]
  have : ((a : Int).tmod 2 == (i : Int)) = true := by
    rw [beq_iff_eq, Int.tmod_eq_emod_of_nonneg (by omega)]
    omega
  rw [this]
  rfl
theorem okH_nou (i : Nat) (s : Int) : okH (nouW 64) i s = false := by
  unfold okH sayH rightH
  rw [numAt_nou, numAt_nou, numAt_nou, numAt_nou]
  rfl
/-- the head that counts: sector i has it, and the other sector has none that is newer -/
theorem newH_of {dur : List Nat} {T : Nat → Option (List Nat)} {s a b c d : Nat} (ha : 1 ≤ a ∧ a ≤ 1152921504606846976) (hb : 1 ≤ b ∧ b ≤ 1152921504606846976) (hc : c < s) (hs : s ≤ 8192) (hd : 1 ≤ d ∧ d ≤ 1152921504606846976) (h1 : nowOf dur T (a % 2) = hdB a b c d) (h2 : ∀ i, i < 2 → i ≠ a % 2 → okH (nowOf dur T i) i s = true → (sayH (nowOf dur T i)).a < (a : Int)) : newH dur T s 2 = ⟨a, b, c, d⟩ := by
  have hsay : sayH (nowOf dur T (a % 2)) = ⟨a, b, c, d⟩ := by rw [h1]; exact sayH_hdB (by omega) (by omega) (by omega) (by omega)
  have hme : ∀ A : H4, A.a < (a : Int) → stepH dur T s A (a % 2) = ⟨a, b, c, d⟩ := fun A hA => by
    unfold stepH
    rw [hsay, h1, okH_hdB ha hb hc hs hd rfl]
    rw [decide_eq_true hA]
    rfl
  have hoth : ∀ (A : H4) i, i < 2 → i ≠ a % 2 → (stepH dur T s A i = A ∨ (stepH dur T s A i).a < (a : Int)) := fun A i hi hne => by
    unfold stepH
    by_cases h : (okH (nowOf dur T i) i s && decide (A.a < (sayH (nowOf dur T i)).a)) = true
    · rw [if_pos h]
      rw [Bool.and_eq_true] at h
      exact Or.inr (h2 i hi hne h.1)
    · rw [if_neg h]
      exact Or.inl rfl
  have hkeep : ∀ i, i < 2 → i ≠ a % 2 → stepH dur T s ⟨a, b, c, d⟩ i = ⟨a, b, c, d⟩ := fun i hi hne => by
    unfold stepH
    rw [if_neg]
    intro h
    rw [Bool.and_eq_true, decide_eq_true_eq] at h
    have := h2 i hi hne h.1
    have h9 : (a : Int) < (sayH (nowOf dur T i)).a := h.2
    omega
  show stepH dur T s (stepH dur T s ⟨0, 0, 0, 0⟩ 0) 1 = _
  rcases Nat.mod_two_eq_zero_or_one a with e | e
  · have h0 : stepH dur T s ⟨0, 0, 0, 0⟩ 0 = ⟨a, b, c, d⟩ := by
      have := hme ⟨0, 0, 0, 0⟩ (show (0 : Int) < (a : Int) by omega)
      rw [e] at this
      exact this
    rw [h0]
    exact hkeep 1 (by omega) (by omega)
  · have := hme (stepH dur T s ⟨0, 0, 0, 0⟩ 0) (by
      rcases hoth ⟨0, 0, 0, 0⟩ 0 (by omega) (by omega) with h | h
      · rw [h]; show (0 : Int) < (a : Int); omega
      · exact h)
    rw [e] at this
    exact this
theorem nowOf_dur {dur : List Nat} {T : Nat → Option (List Nat)} {n : Nat} (hdl : dur.length = n * 64) (hTl : ∀ i xs, T i = some xs → xs.length = 64) {i : Nat} (hi : i < n) : nowOf (durAll dur T n) (fun _ => none) i = nowOf dur T i := by
  have hl : (durAll dur T n).length = n * 64 := by simp [durAll]
  have hget : ∀ j, j < n * 64 → (durAll dur T n)[j]? = some (Sf dur T (fun _ => false) j) := fun j hj => by unfold durAll; rw [List.getElem?_map, List.getElem?_range hj]; rfl
  have key : ∀ ys : List Nat, ys.length = 64 → (∀ j, j < 64 → ys[j]? = some (Sf dur T (fun _ => false) (i * 64 + j))) → (((durAll dur T n).drop (i * 64)).take 64) = ys := fun ys hy hj => by
    apply List.ext_getElem?
    intro j
    by_cases h64 : j < 64
    · rw [List.getElem?_take_of_lt h64, List.getElem?_drop, hget _ (by omega), hj j h64]
    · rw [List.getElem?_eq_none (by rw [List.length_take]; omega), List.getElem?_eq_none (by omega)]
  unfold nowOf
  show ((durAll dur T n).drop (i * 64)).take 64 = _
  cases hT : T i with
  | none =>
    show _ = (dur.drop (i * 64)).take 64
    refine key _ (by rw [List.length_take, List.length_drop, hdl]; omega) (fun j hj => ?_)
    rw [List.getElem?_take_of_lt hj, List.getElem?_drop]
    unfold Sf
    rw [show (i * 64 + j) / 64 = i from by omega, hT]
    show _ = some (dur.getD (i * 64 + j) 0)
    rw [List.getD_eq_getElem?_getD, List.getElem?_eq_getElem (by rw [hdl]; omega)]; rfl
  | some xs =>
    have hs := hTl i xs hT
    show _ = xs
    refine key _ hs (fun j hj => ?_)
    unfold Sf
    rw [show (i * 64 + j) / 64 = i from by omega, hT, show (i * 64 + j) % 64 = j from by omega]
    simp only [Bool.false_eq_true, if_false]
    rw [List.getD_eq_getElem?_getD, List.getElem?_eq_getElem (by rw [hs]; exact hj)]; rfl
theorem durAll_len (dur : List Nat) (T : Nat → Option (List Nat)) (n : Nat) : (durAll dur T n).length = n * 64 := by simp [durAll]
/-- what a plate has behind a head was written -/
theorem nowOf_wrHead {dur : List Nat} {T : Nat → Option (List Nat)} {n i : Nat} {hd : List Nat} (hdl : dur.length = n * 64) (hTl : ∀ i xs, T i = some xs → xs.length = 64) (hh : hd.length = 64) {j : Nat} (hj : j < n) : nowOf (wrHead dur T n i hd) (fun _ => none) j = if j = i then hd else nowOf dur T j := by
  unfold wrHead
  rw [nowOf_dur (durAll_len _ _ _) (fun k xs hk => by
    split at hk
    · cases hk; exact hh
    · cases hk) hj]
  by_cases hji : j = i
  · rw [if_pos hji]
    show (if j = i then some hd else none).getD _ = hd
    rw [if_pos hji]
    rfl
  · have e1 : nowOf (durAll dur (fun j => if j = i then some (nouW 64) else T j) n) (fun j => if j = i then some hd else none) j = nowOf (durAll dur (fun j => if j = i then some (nouW 64) else T j) n) (fun _ => none) j := by
      show (if j = i then some hd else none).getD _ = (none : Option (List Nat)).getD _
      rw [if_neg hji]
    rw [e1, nowOf_dur hdl (fun k xs hk => by
      split at hk
      · cases hk; exact nouW_len 64
      · exact hTl k xs hk) hj, if_neg hji]
    show (if j = i then some (nouW 64) else T j).getD _ = (T j).getD _
    rw [if_neg hji]
theorem hdB_len (a b c d : Nat) : (hdB a b c d).length = 64 := sealB_len (hdP_len a b c d)
end Go.Proofs.YtmooddbhcccicaaGreatDoor
