/- The walk of the law PlaceSame, of members that are not too many. -/
import Derived.Test.YtneobpdbfbcnmaaHt
import Derived.Test.YtneobpdbfbcnmaaHu
namespace Go.Proofs.Ytneobpdbfbcnmaa
set_option linter.unusedVariables false
set_option linter.unusedSimpArgs false
open Go.RowKit Go.Deep

/-- slices.Reverse of numbers of one's own, or of none -/
theorem reverse_any (base : Nat) (v : Value) (l : List Int) (w : World) (hn : l.length ≤ 4611686018427387904) (ho : w.ownsRow base 3 1 v l.length (l.map encI)) :
    Calls Try.prog 15 #[v] w fun e w' => e = .returned (.tuple #[]) ∧ Kp (fun b => v.ownBlock = some b) w w' ∧ ∃ l' : List Int, l'.length = l.length ∧ (∀ z, z ∈ l' ↔ z ∈ l) ∧ w'.ownsRow base 3 1 v l'.length (l'.map encI) := by
  rcases Joins.ownsRow_forms ho with ⟨e1, e2⟩ | ⟨g, cap, e⟩
  · subst e1
    have hl : l = [] := List.eq_nil_of_length_eq_zero e2
    subst hl
    go_enter Try.func15, Try.ntmps15
    go_wp2
    go_loopg [2, 3] 0 (fun gk iv jv wr => gk = 0 ∧ iv = .int .i64 0 ∧ jv = .int .i64 (-1) ∧ wr = w)
    case atStart => exact ⟨rfl, rfl, rfl, rfl⟩
    case round =>
      obtain ⟨rfl, rfl, rfl, hwr⟩ := hrel
      subst hwr
      go_wp2
      refine bodyPost_end (results_none rfl _ _ _) rfl ?_
      exact ⟨rfl, Kp.refl _ _, [], rfl, fun _ => Iff.rfl, World.ownsRow_nil _ _ _ _⟩
  · subst e
    refine (reverse_own g l.length cap base l w rfl hn ho).mono ?_
    rintro e w' ⟨rfl, k, l', h1, h2, h3⟩
    refine ⟨rfl, k.mono (fun b _ e => by rw [e]; rfl), l', h1, h2, ?_⟩
    rw [h1]
    exact h3
/-- append of whatever, onto a slice of one's own: the same block, or nothing old has changed -/
theorem wpList_app2 {ops : Array Oper} {rest : List Oper} {o : Oper} {a : Act} {Q : Exit → Act → World → Prop} (w : World) (hgd : o.guard = none) (s y : Operand)
    (ho : o.op = .call { callee := .builtin .append, args := #[s, y], argTypes := #[22, 22] })
    (base : Nat) (v : Value) (n : Nat) (xs : List Value) (hs : a.eval s = v) (hown : w.ownsRow base 3 1 v n xs) (x : Value) (m : Nat) (news : List Value) (hx : a.eval y = x) (hsrc : Src Try.prog 1 22 x m news w)
    (hb : (n + m) * 8 ≤ 140737488355328) (hbase : base ≤ w.heap.size)
    (h : ∀ v' w', w'.ownsRow base 3 1 v' (n + m) (xs ++ news) → ((w.grownBy w' v.ownBlock ∧ v'.ownBlock = v.ownBlock) ∨ w.grownBy w' none) → wpList Try.prog ops Q rest (a.put o.dst v') w') :
    wpList Try.prog ops Q (o :: rest) a w := by
  refine wpList_plain hgd fun K hK => ?_
  obtain ⟨ti, hi0, hz0, hz1, hz2⟩ := info_parts infoInt
  obtain ⟨v', w', hr, h2, h3⟩ := run_app2 (P := Try.prog) w base 22 22 o.type 3 ti (.int .i64 0) 1 8 Try.underlying22 hi0 hz0 hz1 hz2 rfl (by decide) v n xs hown x m news hsrc (by unfold maxLen; omega) (by omega) hbase
  unfold Oper.wp execOp
  simp only [ho, resolve, invoke, builtin, Sem.run_bind, Sem.run_pure, Result.andThen_ok, List.map_toArray, List.map_cons, List.map_nil, hs, hx, hr]
  exact hK _ _ (h v' w' h2 h3)
/-- what was appended to reads as before -/
theorem back_fl {w w4 : World} {base cb m : Nat} {qb : Option Addr} {ys : List Int} {v' : Value} {news : List Value} (o : w.ownsRow base 3 1 (.slice qb ys.length cb) ys.length (ys.map encI)) (o' : w4.ownsRow base 3 1 v' (ys.length + m) (ys.map encI ++ news))
    (h : (w.grownBy w4 (Value.slice qb ys.length cb).ownBlock ∧ v'.ownBlock = (Value.slice qb ys.length cb).ownBlock) ∨ w.grownBy w4 none) : Fl w4 (fun _ => True) qb (ys.map encI) := by
  rcases h with ⟨_, hb⟩ | h
  · intro j u hu
    have hj : j < ys.length := by have := (List.getElem?_eq_some_iff.1 hu).1; rwa [List.length_map] at this
    rcases o.2 with ⟨e1, e2⟩ | ⟨g, cap, cur, e1, _⟩
    · omega
    · injection e1 with e1
      subst e1
      rcases o'.2 with ⟨e3, e4⟩ | ⟨g', cap', cur', e3, _⟩
      · omega
      · subst e3
        have hgg : some g' = some g := hb
        injection hgg with hgg
        subst hgg
        refine ⟨g', 0, rfl, trivial, ?_⟩
        have := o'.cells (g := g') rfl j u (by rw [List.getElem?_append_left (by rw [List.length_map]; exact hj)]; exact hu)
        rw [Addr.add_mid] at this
        exact this
  · have k := grownBy_kp h
    obtain ⟨q, cq, e, hf⟩ := own_fl o
    injection e with e1
    rw [e1]
    exact (hf.mono (fun _ _ => trivial)).keep k (fun b _ e => by cases e)
theorem choose_fresh (Z : Nat → Prop) (p : Option Addr) (cp : Nat) (zs : List Int) (seed n : Int) (w : World) (h : Fl w Z p (zs.map encI)) (hl : Hid (zs.length * 8 ≤ 140737488355328)) :
    Calls Try.prog 8 #[.slice p zs.length cp, .int .i64 seed, .int .i64 n] w fun e w' => ∃ q cq, e = .returned (.tuple #[.slice q (cho zs seed n).1.length cq, .int .i64 (cho zs seed n).2]) ∧ Kp (fun _ => False) w w' ∧ Fl w' (fun b => w.heap.size ≤ b) q ((cho zs seed n).1.map encI) := by
  by_cases h1 : 1 ≤ n ∧ n ≤ 16
  · by_cases h2 : ((trn zs seed).length : Int) < n
    · refine (choose_few Z p cp zs seed n h1 h2 w h hl).mono ?_
      rintro e w' ⟨rfl, k⟩
      rw [cho_few h1 h2]
      exact ⟨none, 0, rfl, k, flN _ _ _⟩
    · obtain ⟨m, rfl⟩ : ∃ m : Nat, n = (m : Int) := ⟨n.toNat, by omega⟩
      refine (choose_ok Z p cp zs seed m (by omega) (by omega) w h hl).mono ?_
      rintro e w' ⟨g, rfl, k, hg, lg⟩
      rw [cho_ok h1 h2]
      have hm : ((trn zs seed).take (m : Int).toNat).length = m := by rw [List.length_take]; omega
      refine ⟨some ⟨g, 0, none⟩, m, by rw [hm], k, fun j u hu => ⟨g, 0, rfl, hg, ?_⟩⟩
      rw [Nat.zero_add]
      exact lg.cell hu
  · refine (choose_arg _ seed n h1 w).mono ?_
    rintro e w' ⟨rfl, rfl⟩
    rw [cho_arg h1]
    exact ⟨none, 0, rfl, Kp.refl _ _, flN _ _ _⟩
theorem cho_ext {xs ys : List Int} (s n : Int) (h : ∀ z, z ∈ xs ↔ z ∈ ys) : cho xs s n = cho ys s n := by unfold cho; rw [trn_ext s h]
theorem fst_ext {xs ys : List Int} (s : Int) (b : List Bool) (h : ∀ z, z ∈ xs ↔ z ∈ ys) : fstS xs s b = fstS ys s b := by unfold fstS; rw [trn_ext s h]

set_option maxRecDepth 100000 in
set_option maxHeartbeats 6400000 in
theorem placeSame_walk (v0 : Value) (L0 : Nat) (seed n0 : Int) (w : World) (h0 : Ints w v0 L0) (hsm : L0 ≤ 1000000000000) :
    Calls Try.prog 6 #[v0, .int .i64 seed, .int .i64 n0] w fun e w' => e = .returned (.bool true) ∧ Kp (fun _ => False) w w' := by
  obtain ⟨p, c, zs, rfl, hz, _, hi, hb⟩ := h0
  have HZ : Hid (∀ z, Kp (fun _ => False) w z → Fl z (fun _ => True) p (zs.map encI)) := fun z k => ((ints_fl hi).mono (fun _ _ => trivial)).keep k (fun _ _ => id)
  subst hz
  have HSM : Hid (zs.length ≤ 1000000000000) := hsm
  have HB1 : Hid (zs.length * 8 ≤ 140737488355328) := hb
  have hw1 := md_eq 16 n0 (by omega) (by omega)
  have hml := md_lt 16 n0 (by omega)
  obtain ⟨m, hm⟩ : ∃ m : Nat, m = md 16 n0 := ⟨_, rfl⟩
  rw [← hm] at hw1 hml
  obtain ⟨nn, hnn⟩ : ∃ nn : Int, nn = 1 + (m : Int) := ⟨_, rfl⟩
  have hw2 : wrap64 (1 + (m : Int)) = nn := by unfold wrap64; omega
  have HCL : Hid (Calls _ _ _ w _) := clone_ints (fun _ => True) p c zs w (HZ.out _ (Kp.refl _ _)) HB1
  have HCH : Hid (∀ z, Kp (fun _ => False) w z → Calls _ _ _ z _) := fun z k => choose_fresh _ p c zs seed nn z (HZ.out z k) HB1
  have HCB : Hid (∀ (ys : List Int) (q : Option Addr) (cq : Nat) (z : World), (∀ x, x ∈ ys ↔ x ∈ zs) → ys.length * 8 ≤ 140737488355328 → Fl z (fun _ => True) q (ys.map encI) → Calls Try.prog 8 #[.slice q ys.length cq, .int .i64 seed, .int .i64 nn] z fun e w' => ∃ q cq, e = .returned (.tuple #[.slice q (cho zs seed nn).1.length cq, .int .i64 (cho zs seed nn).2]) ∧ Kp (fun _ => False) z w' ∧ Fl w' (fun _ => True) q ((cho zs seed nn).1.map encI)) := fun ys q cq z he hl hf => by
    rw [← cho_ext seed nn he]
    exact choose_any _ q cq ys seed nn z hf hl
  have HCN := cho_len zs seed nn
  have HEA : Hid (∀ (q1 q2 : Option Addr) (d1 d2 : Nat) (z : World), Fl z (fun _ => True) q1 ((cho zs seed nn).1.map encI) → Fl z (fun _ => True) q2 ((cho zs seed nn).1.map encI) → Calls Try.prog 12 #[.slice q1 (cho zs seed nn).1.length d1, .slice q2 (cho zs seed nn).1.length d2] z fun e w' => e = .returned (.bool true) ∧ Kp (fun _ => False) z w') := fun q1 q2 d1 d2 z f1 f2 => by
    have := eq_ints _ _ q1 q2 d1 d2 _ _ z f1 f2 (by show _ ≤ _; omega)
    rw [decide_eq_true rfl] at this
    exact this
  have HSP : Hid (∀ (ys : List Int) (q : Option Addr) (cq : Nat) (q2 : Option Addr) (d2 : Nat) (z : World), (∀ x, x ∈ ys ↔ x ∈ zs) → ys.length * 8 ≤ 140737488355328 → Fl z (fun _ => True) q (ys.map encI) → Fl z (fun _ => True) q2 ((cho zs seed nn).1.map encI) → Calls Try.prog 10 #[.slice q ys.length cq, .slice q2 (cho zs seed nn).1.length d2, .int .i64 seed] z fun e w' => e = .returned (.tuple #[.int .i64 ((fstS zs seed (setOf (cho zs seed nn).1)).getD 0), .int .i64 (if (fstS zs seed (setOf (cho zs seed nn).1)).isSome then 0 else 140)]) ∧ Kp (fun _ => False) z w') := fun ys q cq q2 d2 z he hl hf f2 => by
    rw [← fst_ext seed _ he]
    exact spare_ok _ _ q q2 cq d2 ys _ seed z hf f2 hl (by show _ ≤ _; omega)
  have HAW : Hid (∀ z, Calls _ _ _ z _) := fun z => awake_ok z
  obtain ⟨ra, hra⟩ : ∃ ra, ra = (fstS zs seed (setOf (cho zs seed nn).1)).getD 0 := ⟨_, rfl⟩
  obtain ⟨rb, hrb⟩ : ∃ rb : Int, rb = if (fstS zs seed (setOf (cho zs seed nn).1)).isSome then 0 else 140 := ⟨_, rfl⟩
  rw [← hra, ← hrb] at HSP
  obtain ⟨ch, hch⟩ : ∃ ch, ch = cho zs seed nn := ⟨_, rfl⟩
  rw [← hch] at HCH HCB HEA HSP
  obtain ⟨cl, ce⟩ := ch
  dsimp only at HCH HCB HEA HSP
  obtain ⟨CN, hCN⟩ : ∃ CN, CN = cl.length := ⟨_, rfl⟩
  rw [← hCN] at HCH HCB HEA HSP
  obtain ⟨ZL, hZL⟩ : ∃ ZL, ZL = zs.length := ⟨_, rfl⟩
  have HZL : Hid (ZL = zs.length) := hZL
  rw [← hZL] at HCL HCH ⊢
  obtain ⟨ti, hi0, hz0, hz1, hz2⟩ := info_parts infoInt
  clear hi hb hch hCN hra hrb hZL HCN hm hml hnn hsm
  go_enter Try.func6, Try.ntmps6
  go_wp2_with fail
  refine HCL.out.mono ?_
  rintro e w1 ⟨v1, rfl, k1, o1⟩
  have HK1 : Hid (Kp (fun _ => False) w w1) := k1
  have HRV : Hid (Calls _ _ _ w1 _) := reverse_any w.heap.size v1 zs w1 (by have := HSM.out; omega) (by rw [HZL.out] at o1; exact o1)
  have HOB : Hid (∀ b, v1.ownBlock = some b → w.heap.size ≤ b) := fun b e => (ownBlock_lt o1 e).1
  clear k1 o1 HCL
  go_wp2_with fail
  refine HRV.out.mono ?_
  rintro e w2 ⟨rfl, k2, ys, hyl, hym, o2⟩
  have HK2 : Hid (Kp (fun _ => False) w w2) := HK1.out.trans k2 (fun b hb e => by have := HOB.out b e; omega)
  have HY : Hid (ys.length = zs.length ∧ (∀ z, z ∈ ys ↔ z ∈ zs) ∧ w2.ownsRow w.heap.size 3 1 v1 ys.length (ys.map encI)) := ⟨hyl, hym, o2⟩
  clear HRV k2 hyl hym o2 HK1
  go_wp2_with fail
  refine (HCH.out w2 HK2.out).mono ?_
  rintro e w3 ⟨q3, d3, rfl, k3, f3⟩
  have HK3 : Hid (Kp (fun _ => False) w2 w3) := k3
  have HF3 : Hid (Fl w3 (fun b => w2.heap.size ≤ b) q3 (cl.map encI)) := f3
  have HO3 : Hid (w3.ownsRow w.heap.size 3 1 v1 ys.length (ys.map encI)) := ownsRow_keep HY.out.2.2 k3 (fun _ _ => id)
  clear k3 f3 HCH
  obtain ⟨qb, cb, hv1, _⟩ := own_fl HO3.out
  subst hv1
  have HSrc : Hid (Src Try.prog 1 22 (.slice p ZL c) ZL (zs.map encI) w3) := by
    rw [HZL.out]
    exact (HZ.out w3 (HK2.out.trans HK3.out (fun _ _ e => e))).src Try.underlying22 (by decide) (by rw [List.length_map]; omega) (fun u hu => by obtain ⟨z, _, rfl⟩ := List.mem_map.1 hu; rfl)
  have HSZ : Hid ((ys.length + ZL) * 8 ≤ 140737488355328) := by
    show _ ≤ _
    have h1 := HY.out.1
    have h2 := HZL.out
    have h3 := HSM.out
    omega
  have HBS : Hid (w.heap.size ≤ w3.heap.size) := (HK2.out.trans HK3.out (fun _ _ e => e)).size
  go_wp2_with (at_builtin; go_must (refine wpList_app2 _ rfl _ _ rfl w.heap.size (.slice qb ys.length cb) ys.length (ys.map encI) rfl HO3.out _ ZL (zs.map encI) rfl HSrc.out HSZ.out HBS.out ?_); intro v4 w4 o4 hg4; have HO4 : Hid (w4.ownsRow w.heap.size 3 1 v4 (ys.length + ZL) (ys.map encI ++ zs.map encI)) := o4; have HG4 : Hid ((w3.grownBy w4 (Value.slice qb ys.length cb).ownBlock ∧ v4.ownBlock = (Value.slice qb ys.length cb).ownBlock) ∨ w3.grownBy w4 none) := hg4; obtain ⟨q4, c4, hv4, _⟩ := own_fl o4; clear o4 hg4; subst hv4)
  have HK4 : Hid (Kp (fun _ => False) w w4) := by
    refine (HK2.out.trans HK3.out (fun _ _ e => e)).trans (S' := fun b => (Value.slice qb ys.length cb).ownBlock = some b) ?_ (fun b hb e => by have := (ownBlock_lt HO3.out e).1; omega)
    rcases HG4.out with ⟨h1, _⟩ | h1
    · exact grownBy_kp h1
    · exact (grownBy_kp h1).mono (fun b _ e => by cases e)
  have HBF : Hid (∀ z, Kp (fun _ => False) w4 z → Fl z (fun _ => True) qb (ys.map encI)) := fun z k => (back_fl HO3.out HO4.out HG4.out).keep k (fun _ _ => id)
  have HF4 : Hid (∀ z, Kp (fun _ => False) w4 z → Fl z (fun _ => True) q3 (cl.map encI)) := fun z kz => by
    refine Fl.keep (S := fun _ => False) ?_ kz (fun _ _ => id)
    rcases HG4.out with ⟨h1, _⟩ | h1
    · intro j u hu
      obtain ⟨b, o, e, hb, hc⟩ := HF3.out j u hu
      refine ⟨b, o, e, trivial, (grownBy_kp h1).cellv hc (fun e2 => ?_)⟩
      have := (ownBlock_lt HY.out.2.2 e2).2
      have hb' : w2.heap.size ≤ b := hb
      have e3 : (⟨b, o + j, none⟩ : Addr).block = b := rfl
      omega
    · exact (HF3.out.mono (fun _ _ => trivial)).keep (grownBy_kp h1) (fun b _ e => by cases e)
  have hlen : (ys ++ zs).length = ys.length + ZL := by rw [List.length_append, HZL.out]
  have HC4 : Hid (Calls Try.prog 8 #[.slice q4 (ys.length + ZL) c4, .int .i64 seed, .int .i64 nn] w4 fun e w' => ∃ q cq, e = .returned (.tuple #[.slice q CN cq, .int .i64 ce]) ∧ Kp (fun _ => False) w4 w' ∧ Fl w' (fun _ => True) q (cl.map encI)) := by
    rw [← hlen]
    refine HCB.out (ys ++ zs) q4 c4 w4 (fun x => ?_) (by rw [hlen]; exact HSZ.out) ?_
    · rw [List.mem_append, HY.out.2.1]; exact ⟨fun h => h.elim id id, fun h => Or.inr h⟩
    · obtain ⟨q, cq, e, hf⟩ := own_fl HO4.out
      injection e with e1
      rw [e1, List.map_append]
      exact hf.mono (fun _ _ => trivial)
  have HS1 : Hid (∀ z, Kp (fun _ => False) w4 z → Calls Try.prog 10 #[.slice p ZL c, .slice q3 CN d3, .int .i64 seed] z fun e w' => e = .returned (.tuple #[.int .i64 ra, .int .i64 rb]) ∧ Kp (fun _ => False) z w') := fun z kz => by
    rw [HZL.out]
    exact HSP.out zs p c q3 d3 z (fun _ => Iff.rfl) HB1.out (HZ.out z (HK4.out.trans kz (fun _ _ e => e))) (HF4.out z kz)
  have HS2 : Hid (∀ z, Kp (fun _ => False) w4 z → Calls Try.prog 10 #[.slice qb ys.length cb, .slice q3 CN d3, .int .i64 seed] z fun e w' => e = .returned (.tuple #[.int .i64 ra, .int .i64 rb]) ∧ Kp (fun _ => False) z w') := fun z kz =>
    HSP.out ys qb cb q3 d3 z HY.out.2.1 (by rw [HY.out.1]; exact HB1.out) (HBF.out z kz) (HF4.out z kz)
  clear HSP HCB HBF HO4 HG4 HO3 HF3 HY HSrc HSZ HBS hlen HK2 HK3 HZ HOB
  refine HC4.out.mono ?_
  rintro e w5 ⟨q5, d5, rfl, k5, f5⟩
  have HK5 : Hid (Kp (fun _ => False) w4 w5) := k5
  have HF5 : Hid (∀ z, Kp (fun _ => False) w5 z → Fl z (fun _ => True) q5 (cl.map encI)) := fun z k => f5.keep k (fun _ _ => id)
  clear k5 f5 HC4
  go_wp2_with fail
  refine (HS1.out w5 HK5.out).mono ?_
  rintro e w6 ⟨rfl, k6⟩
  have HK6 : Hid (Kp (fun _ => False) w5 w6) := k6
  clear k6 HS1
  go_wp2_with fail
  refine (HS2.out w6 (HK5.out.trans HK6.out (fun _ _ e => e))).mono ?_
  rintro e w7 ⟨rfl, k7⟩
  have HK7 : Hid (Kp (fun _ => False) w5 w7) := HK6.out.trans k7 (fun _ _ e => e)
  clear k7 HS2 HK6
  go_wp2_with fail
  refine (HEA.out q3 q5 d3 d5 w7 (HF4.out _ (HK5.out.trans HK7.out (fun _ _ e => e))) (HF5.out _ HK7.out)).mono ?_
  rintro e w8 ⟨rfl, k8⟩
  have HK8 : Hid (Kp (fun _ => False) w w8) := (HK4.out.trans (HK5.out.trans HK7.out (fun _ _ e => e)) (fun _ _ e => e)).trans k8 (fun _ _ e => e)
  clear k8 HEA HF4 HF5 HK7 HK5 HK4
  go_wp2_with fail
  refine (HAW.out w8).mono ?_
  rintro e w9 ⟨rfl, k9⟩
  go_wp2
  go_ret
  exact ⟨rfl, HK8.out.trans k9 (fun _ _ e => e)⟩
end Go.Proofs.Ytneobpdbfbcnmaa
