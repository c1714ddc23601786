/- HistoryApart: its first loop (laid by scripts/mkvt.py). -/
import Derived.Test.YtbbgplnenbkfeaaVs
import Derived.Test.YtbbgplnenbkfeaaVp
import Derived.Maps.RangeWalk
namespace Go.Proofs.Ytbbgplnenbkfeaa
set_option linter.unusedVariables false
set_option linter.unusedSimpArgs false
open Go.RowKit Go.Deep Go.Maps

theorem ranges_keep {w w' : World} {b r n : Nat} {D : DataW Value} {left : Lit → Bool} {cnt : Nat} (h : w.ranges Try.prog 9 idR b r n D left cnt) (k : Kp (fun _ => False) w w') : w'.ranges Try.prog 9 idR b r n D left cnt := by
  obtain ⟨es, clock, since, seen, c0, hb, F, hs, hD, hr, hx⟩ := h
  exact ⟨es, clock, since, seen, c0, by rw [k.block b (by have := (Array.getElem?_eq_some_iff.1 hb).1; exact this) id]; exact hb, F, hs, hD, by rw [k.block r (by have := (Array.getElem?_eq_some_iff.1 hr).1; exact this) id]; exact hr, hx⟩
theorem str_key {key : Value} {kl : Lit} (h : keyOf Try.prog 9 key = some kl) : ∃ x : ByteArray, key = .string x := by
  obtain ⟨x, hx, _⟩ := Go.WideMaps.string_of_keyOf Try.underlying9 h
  exact ⟨x, hx⟩
theorem rdF_keys (all : List Ev) : ∀ (es : List Ev) (k : Nat) (cs cs' : List Hc), (∀ e ∈ es, e ∈ all) → (∀ c ∈ cs, ∃ e ∈ all, c.e.key = e.key) → rdF es k cs = some cs' → ∀ c ∈ cs', ∃ e ∈ all, c.e.key = e.key
  | [], k, cs, cs', _, h, hr => by cases hr; exact h
  | x :: es, k, cs, cs', hx, h, hr => by
    have hr2 : (stp cs k x).bind (rdF es (k + 1)) = some cs' := hr
    cases hs : stp cs k x with
    | none => rw [hs] at hr2; cases hr2
    | some c1 =>
      rw [hs] at hr2
      refine rdF_keys all es (k + 1) c1 cs' (fun e he => hx e (List.mem_cons_of_mem _ he)) (fun c hc => ?_) hr2
      rcases stp_cases hs with ⟨_, _, _, rfl⟩ | ⟨i, _, _, hi, _, rfl⟩
      · rcases List.mem_append.1 hc with q | q
        · exact h c q
        · rw [List.mem_singleton] at q; subst q
          exact ⟨x, hx x (by simp), rfl⟩
      · rcases List.mem_or_eq_of_mem_set hc with q | q
        · exact h c q
        · subst q
          rw [hearP_e]
          exact h _ (getD_mem hi)
theorem rd_keys (es : List Ev) (cs : List Hc) (h : rd es = some cs) : ∀ c ∈ cs, ∃ e ∈ es, c.e.key = e.key := rdF_keys es es 0 [] cs (fun e he => he) (fun c hc => (by cases hc)) h

set_option maxRecDepth 100000 in
set_option maxHeartbeats 12800000 in
theorem historyApart_walk (p : Option Addr) (n c : Nat) (es0 : List Ev) (w : World) (h : es0.length = n ∧ Fl w (fun _ => True) p (eflat es0) ∧ (∀ x ∈ es0, x.ok w) ∧ (n : Int) ≤ 9223372036854775807 ∧ n ≤ c) :
    Calls Try.prog 6 #[.slice p n c] w fun e w' => e = .returned (.bool true) ∧ Kp (fun _ => False) w w' := by
  obtain ⟨m, hm⟩ : ∃ m : Nat, min (n : Int) 30 = (m : Int) := ⟨min n 30, by omega⟩
  have hmn : m ≤ n ∧ m ≤ 30 := by omega
  have hj : Jn w p m c (es0.take m) := ⟨by rw [List.length_take]; omega, by
    have hf := h.2.1
    rw [← List.take_append_drop m es0, eflat_append] at hf
    exact fl_part hf, fun e he => h.2.2.1 e (List.mem_of_mem_take he), by omega, by omega⟩
  obtain ⟨es, hes⟩ : ∃ es, es = es0.take m := ⟨_, rfl⟩
  rw [← hes] at hj
  have hmc : (m : Int) ≤ (c : Int) := by have := hj.c; omega
  have hm30 : (m : Int) ≤ 30 := by omega
  have HL9 : Hid (m ≤ 30) := hmn.2
  have HJ : Hid (Jn w p m c es) := hj
  have HM : Hid (∀ u, Kp (fun _ => False) w u → Calls _ _ _ u _) := fun u ku => (hj.keep ku).may
  have HRm : Hid (∀ u, Kp (fun _ => False) w u → Calls _ _ _ u _) := fun u ku => (hj.keep ku).rmay
  have HC : Hid (∀ u, Kp (fun _ => False) w u → Calls _ _ _ u _) := fun u ku => (hj.keep ku).check
  have HC0 : Hid (∀ u, Calls Try.prog 12 #[.slice none 0 0] u fun r w' => r = .returned (.bool true) ∧ Kp (fun _ => False) u w') := fun u => by
    have := (Jn.none u).check
    rw [chk_nil] at this
    exact this
  clear h hj hmn hes
  cases hrd : rd es with
  | none =>
    have hck : chk es = false := by unfold chk; rw [hrd]
    rw [hrd] at HM HRm
    rw [hck] at HC
    clear hrd hck
    go_enter Try.func6, Try.ntmps6
    go_wp2_with fail
    refine (HRm.out w (Kp.refl _ _)).mono ?_
    rintro e1 w1 ⟨rfl, k1⟩
    have HK1 : Hid (Kp (fun _ => False) w w1) := k1
    clear k1 HRm
    go_wp2_with fail
    refine (HM.out w1 HK1.out).mono ?_
    rintro e2 w2 ⟨rfl, k2⟩
    have HK2 : Hid (Kp (fun _ => False) w w2) := HK1.out.trans k2 (fun _ _ e => e)
    clear k2 HM
    go_wp2_with fail
    refine (HC.out w2 HK2.out).mono ?_
    rintro e3 w3 ⟨rfl, k3⟩
    have HK3 : Hid (Kp (fun _ => False) w w3) := HK2.out.trans k3 (fun _ _ e => e)
    clear k3 HC
    go_wp2_with fail
    refine (HC0.out w3).mono ?_
    rintro e4 w4 ⟨rfl, k4⟩
    have HK4 : Hid (Kp (fun _ => False) w w4) := HK3.out.trans k4 (fun _ _ e => e)
    clear k4 HC0
    go_wp2
    go_ret
    exact ⟨rfl, HK4.out⟩
  | some csA =>
    have HRd : Hid (rd es = some csA) := hrd
    rw [hrd] at HRm
    clear hrd HM
    have HCk : Hid (∀ (cs : List Hc) (k : Nat) (ap : List UInt8 → List Ev), k ≤ m → Prt (es.take k) cs ap → ∀ c ∈ cs, c.e.key.size ≤ maxLen) := fun cs k ap hk hP c hc => by
      have := rd_keys (es.take k) cs hP.r c hc
      obtain ⟨e, he, hke⟩ := this
      rw [hke]
      exact (HJ.out.o e (List.mem_of_mem_take he)).s
    have hmm : ∀ (t : TypeId) (w : World), (Instr.makeMap t none).run Try.prog w = .ok (.map (some w.heap.size)) (w.alloc (.map #[] 0)) := fun _ _ => rfl
    go_enter Try.func6, Try.ntmps6
    go_wp2_with fail
    refine (HRm.out w (Kp.refl _ _)).mono ?_
    rintro e1 w1 ⟨rfl, k1⟩
    have HK1 : Hid (Kp (fun _ => False) w w1) := k1
    clear k1 HRm
    go_wp2
    clear hmm
    obtain ⟨wa, hwa⟩ : ∃ x, x = w1.alloc (.map #[] 0) := ⟨_, rfl⟩
    obtain ⟨wb, hwb⟩ : ∃ x, x = wa.alloc (.map #[] 0) := ⟨_, rfl⟩
    have za : wa.heap.size = w1.heap.size + 1 := by rw [hwa]; simp
    have zb : wb.heap.size = wa.heap.size + 1 := by rw [hwb]; simp
    have kab : Kp (fun _ => False) wa wb := by rw [hwb]; exact (Kp.refl _ _).alloc _
    have k1b : Kp (fun _ => False) w1 wb := by rw [hwb, hwa]; exact ((Kp.refl _ _).alloc _).alloc _
    have HM0 : Hid (Mm wb w1.heap.size 0 0 (keysT [])) := by
      have : Mm wa w1.heap.size 0 0 (fun _ => none) := by rw [hwa]; exact Mm.made w1
      exact this.keep kab id
    have HA0 : Hid (Ap w1 wb w1.heap.size (w1.heap.size + 1) 0 (fun _ => []) (fun _ => .slice none 0 0)) := by
      have y2 : Yt wb wa.heap.size 0 0 (fun _ => none) := by rw [hwb]; exact Yt.made wa
      rw [za] at y2
      refine ⟨⟨0, 0, ?_, Nat.le_refl _⟩, fun s => World.ownsRow_nil _ _ _ _, fun _ _ => rfl, k1b, fun s x hx => (by cases hx), fun s t b _ hb => (by cases hb), fun s b hb => (by cases hb), by omega⟩
      exact y2
    rw [← hwa, ← hwb]
    obtain ⟨m1, hm1⟩ : ∃ x, x = w1.heap.size := ⟨_, rfl⟩
    obtain ⟨m2, hm2⟩ : ∃ x, x = w1.heap.size + 1 := ⟨_, rfl⟩
    rw [← hm2, ← hm1] at HA0
    rw [← hm1] at HM0
    rw [← hm2, ← hm1]
    clear hwa hwb za zb kab k1b hm1 hm2
    go_wp2
    go_loopg [33] m (fun gk iv wr => ∃ (k q1 c1 : Nat) (cs : List Hc) (ap : List UInt8 → List Ev) (V : List UInt8 → Value), k ≤ m ∧ gk = m - k ∧ iv = .int .i64 k ∧ Hid (Ap w1 wr m1 m2 k ap V) ∧ Hid (Mm wr m1 q1 c1 (keysT cs)) ∧ Hid (q1 ≤ k) ∧ Hid (Prt (es.take k) cs ap))
    case atStart => exact ⟨0, 0, 0, [], fun _ => [], fun _ => .slice none 0 0, Nat.zero_le _, rfl, rfl, HA0.out, HM0.out, Nat.le_refl _, Prt.nil⟩
    case round =>
      obtain ⟨k, q1, c1, cs, ap, V, hk, rfl, rfl, HA, HMm, HQ, HP⟩ := hrel
      by_cases hlt : (k : Int) < (m : Int)
      · have hkl : k < es.length := by have := HJ.out.l; omega
        obtain ⟨b1, o1, rfl, _, r1⟩ := fl_e (((HJ.out.keep HK1.out).f).keep HA.out.k (fun _ _ => id)) hkl
        obtain ⟨e, hee⟩ : ∃ e, e = es[k] := ⟨_, rfl⟩
        rw [← hee] at r1
        have hek : es[k]? = some e := by rw [hee]; exact List.getElem?_eq_getElem hkl
        have HEo : Hid (e.ok w1) := (HJ.out.keep HK1.out).o e (List.mem_of_getElem? hek)
        have HR1 : Hid (wr.rangeAt b1 (o1 + k * 5) (ecell e)) := r1
        have HO1 : Hid ((ecell e).toArray.all (·.oneCell') = true) := ec_one e HEo.out.b.one
        have HK1' : Hid (wrap64 ((k : Int) + 1) = ((k + 1 : Nat) : Int)) := wrapK (by omega)
        have HWF : Hid ((Lit.int .i64 e.id).wf = true) := z_wf HEo.out.i
        obtain ⟨cs', hst, hP2⟩ := HP.out.line HRd.out hek
        obtain ⟨ky, hky⟩ : ∃ y, y = lineKey cs e := ⟨_, rfl⟩
        rw [← hky] at hP2
        have HP2 : Hid (Prt (es.take (k + 1)) cs' (setI ap ky.data.toList (ap ky.data.toList ++ [e]))) := hP2
        have HBx0 : Hid (wr.heap.size ≠ m1 ∧ wr.heap.size ≠ m2) := by
          obtain ⟨_, _, y1, _⟩ := HA.out.a
          have h1 := y1.lt
          have h2 := HA.out.mm
          exact ⟨by omega, by omega⟩
        obtain ⟨d, hd1, hd2⟩ := dsEv
        obtain ⟨zi, hzi⟩ : ∃ z, z = e.id := ⟨_, rfl⟩
        obtain ⟨ans, hans⟩ : ∃ z, z = e.ans := ⟨_, rfl⟩
        obtain ⟨ek, hek2⟩ : ∃ z, z = e.key := ⟨_, rfl⟩
        rw [← hzi] at HWF
        have HZi : Hid (zi = e.id) := hzi
        have HAn : Hid (ans = e.ans) := hans
        have HEk : Hid (ek = e.key) := hek2
        have HEks : Hid (ek.size ≤ maxLen) := by rw [hek2]; exact HEo.out.s
        have HLd : Hid (∀ u, Lv u wr.heap.size (ecell e) → (loadVar 29 ⟨wr.heap.size, 0, none⟩).run Try.prog u = .ok (.agg #[.bool e.ans, .int .i64 e.id, .int .i64 e.kind, .string e.key, e.b.v]) u) := fun u hu => hu.load dsEv szEv rfl
        clear r1 hee hkl hek hP2
        rcases stp_cases hst with ⟨ha, hn, hma, hcs⟩ | ⟨i, ha, hf, hi, hma, hcs⟩
        · have hkey : ky = ek := by rw [hky, hek2]; unfold lineKey; rw [hn]
          subst hkey
          have HKs : Hid (ky.size ≤ maxLen) := HEks.out
          have hans2 : ans = false := by rw [hans]; exact ha
          subst hans2
          have HKT : Hid (keysT cs' = upd (keysT cs) zi (.string ky)) := by
            show _ = _
            rw [hcs, hzi, hek2]
            exact (keysT_new cs (newC e k) hn).symm
          have HGt : Hid ((upd (keysT cs) zi (.string ky) zi).getD (.string ⟨#[]⟩) = .string ky) := by show _ = _; unfold upd; rw [if_pos rfl]; rfl
          clear hst ha hn hma hcs hky hzi hans hek2
          go_wp2_with (first
            | (refine wpList_load_mid rfl 29 _ rfl b1 (o1 + k * 5) rfl _ d HR1.out hd1 hd2 (by rw [szEv]; rfl) ?_)
            | (refine wpList_store_all rfl 29 _ _ rfl 5 wr.heap.size (ecell ev0) (ecell e) rfl rfl (by exact Lv.new wr _ _) szEv rfl rfl HO1.out ?_; intro u1 hl1 k1; have HKu : Hid (Kp (fun _ => False) wr u1) := ((Kp.refl (fun _ => False) wr).alloc _).trans k1 (fun b hb e => by omega); have HLu : Hid (Lv u1 wr.heap.size (ecell e)) := hl1; have c0 : u1.cell? ⟨wr.heap.size, 0, none⟩ = some (.bool false) := (by rw [HAn.out]; exact hl1.cell (j := 0) rfl); have c1' : u1.cell? ⟨wr.heap.size, 1, none⟩ = some (.int .i64 zi) := (by rw [HZi.out]; exact hl1.cell (j := 1) rfl); have c3 : u1.cell? ⟨wr.heap.size, 3, none⟩ = some (.string ky) := (by rw [HEk.out]; exact hl1.cell (j := 3) rfl); clear hl1 k1)
            | (refine wpList_put_mm rfl _ _ _ rfl uKs m1 q1 c1 (keysT cs) (HMm.out.keep HKu.out id) rfl (by have := HQ.out; omega) zi HWF.out rfl (.string ky) rfl ?_; intro u2 hm2 k2; have HMu : Hid (Mm u2 m1 (q1 + 1) (c1 + (if (keysT cs zi).isSome then 0 else 1)) (upd (keysT cs) zi (.string ky))) := hm2; have HKv : Hid (Kp (fun x => x = m1) u1 u2) := k2; clear hm2 k2 c0 c1' c3))
          have HAu : Hid (Ap w1 u2 m1 m2 k ap V) := (HA.out.keep HKu.out (fun _ _ _ => id) id (fun _ _ => id)).keep HKv.out (fun s b hb q => (HA.out.nm s b hb).1 q) (fun q => HA.out.mm.1 q.symm) (fun b hb q => by have := HA.out.mm; omega)
          have HLv : Hid (Lv u2 wr.heap.size (ecell e)) := HLu.out.keep HKv.out HBx0.out.1
          have HSf : Hid (∀ (S : Nat → Prop) (u : World), Kp S u2 u → ¬ S wr.heap.size → ¬ S m1 → u.cell? ⟨wr.heap.size, 1, none⟩ = some (.int .i64 zi) ∧ (Instr.lookup 31 (.map (some m1)) (.int .i64 zi) false).run Try.prog u = .ok (.string ky) u ∧ (loadVar 29 ⟨wr.heap.size, 0, none⟩).run Try.prog u = .ok (.agg #[.bool e.ans, .int .i64 e.id, .int .i64 e.kind, .string e.key, e.b.v]) u) := fun S u ku n1 n2 => by
            have hl := HLv.out.keep ku n1
            refine ⟨by rw [HZi.out]; exact hl.cell (j := 1) rfl, ?_, HLd.out u hl⟩
            have := look_mm uKs zKs (HMu.out.keep ku n2) zi HWF.out
            rw [HGt.out] at this
            exact this
          obtain ⟨bx, hbx⟩ : ∃ b, b = wr.heap.size := ⟨_, rfl⟩
          have HBx : Hid (bx = wr.heap.size) := hbx
          have HBm : Hid (bx ≠ m2) := by rw [hbx]; exact HBx0.out.2
          rw [← hbx] at HSf ⊢
          clear hbx HLd HLv HLu HO1 HR1 hd1 hd2
          have kds : Kp (fun _ => False) u2 u2.drew := (Kp.refl _ _).drew
          have hAp := HAu.out.keep kds (fun _ _ _ => id) id (fun _ _ => id)
          have hln : (ap ky.data.toList).length ≤ 900 := by
            obtain ⟨_, _, hS⟩ := HP.out.s ky.data.toList
            have := hS.l
            rw [List.length_take] at this
            have := HL9.out
            omega
          obtain ⟨g, cap2, w2, r9, w3, hap, hmu, hAp2, k2, k3⟩ := hAp.put (by omega) ky HKs.out e HEo.out hln
          have ka : Kp (fun _ => False) u2.drew (u2.drew.alloc (.cells #[.bool e.ans, .int .i64 e.id, .int .i64 e.kind, .string e.key, e.b.v] 29)) := (Kp.refl _ _).alloc _
          have hnb : ¬ ((V ky.data.toList).ownBlock = some bx) := fun q => by have := (ownBlock_lt (HA.out.o ky.data.toList) q).2; have := HBx.out; omega
          have hn1 : ¬ ((V ky.data.toList).ownBlock = some m1) := fun q => (HA.out.nm _ _ q).1 rfl
          have hbm : bx ≠ m2 := HBm.out
          have h12 : m1 ≠ m2 := HA.out.mm.1
          have s0 := HSf.out (fun _ => False) u2.drew kds id id
          have s1 := HSf.out (fun _ => False) _ (kds.trans ka (fun _ _ q => q)) id id
          have s2 := HSf.out (fun b => (V ky.data.toList).ownBlock = some b) w2 ((kds.mono (fun _ _ q => q.elim)).trans k2 (fun _ _ q => q)) hnb hn1
          have s3 := HSf.out (fun b => (V ky.data.toList).ownBlock = some b ∨ b = m2) w3 ((kds.mono (fun _ _ q => q.elim)).trans k3 (fun _ _ q => q)) (fun q => q.elim hnb hbm) (fun q => q.elim hn1 h12)
          have hM3 := ((HMu.out.keep kds id).keep k3 (fun q => q.elim hn1 h12))
          refine apr_region ⟨by kernel_rfl, by kernel_rfl, by kernel_rfl, by kernel_rfl, by kernel_rfl, by kernel_rfl, by kernel_rfl, by kernel_rfl, by kernel_rfl, by kernel_rfl, by kernel_rfl, by kernel_rfl, by kernel_rfl, by kernel_rfl, by kernel_rfl, by kernel_rfl, by kernel_rfl, by kernel_rfl, by kernel_rfl, by kernel_rfl, by kernel_rfl, by kernel_rfl, by kernel_rfl, by kernel_rfl, by kernel_rfl, by kernel_rfl, by kernel_rfl⟩ m1 m2 bx zi ky (V ky.data.toList) e g ((ap ky.data.toList).length + 1) cap2 (fun d _ _ _ _ h => by cases d <;> exact h) (by rfl) (by rfl) (by rfl) (by rfl) w2 w3 r9 s0 (hAp.look ky HKs.out) s1 ((hAp.keep ka (fun _ _ _ => id) id (fun _ _ => id)).look ky HKs.out) s2 s3 hap hmu ?_ ?_
          all_goals
            have HA3 : Hid (Ap _ _ _ _ _ _ _) := hAp2
            have HM3 : Hid (Mm _ _ _ _ _) := hM3
            clear hap hmu hAp2 k2 k3 ka hnb hn1 hbm h12 s0 s1 s2 s3 hM3 hAp hln kds
            simp only [Act.put, List.setIfInBounds_toArray, List.set_cons_succ, List.set_cons_zero]
            go_wp2
            go_roundg (m - (k + 1))
            case rel =>
              refine ⟨k + 1, q1 + 1, c1 + (if (keysT cs zi).isSome then 0 else 1), cs', _, _, by omega, rfl, by first | rw [HK1'.out] | rfl | go_num, HA3.out, ?_, by have := HQ.out; show _ ≤ _; omega, HP2.out⟩
              show Mm _ _ _ _ _
              rw [HKT.out]
              exact HM3.out
            case measure => omega
        · obtain ⟨cc, hcc⟩ : ∃ x, x = cs.getD i hc0 := ⟨_, rfl⟩
          have hci : cs[i]? = some cc := by rw [hcc, List.getD_eq_getElem?_getD, List.getElem?_eq_getElem hi]; rfl
          have hkey : ky = cc.e.key := by rw [hky, hcc]; unfold lineKey; rw [hf]
          have hcm : cc.e.key.size ≤ maxLen := HCk.out cs k ap (by omega) HP.out cc (List.mem_of_getElem? hci)
          have HKs : Hid (ky.size ≤ maxLen) := by rw [hkey]; exact hcm
          have hans2 : ans = true := by rw [hans]; exact ha
          subst hans2
          have HKT : Hid (keysT cs' = keysT cs) := by
            show _ = _
            rw [hcs, ← hcc]
            exact keysT_set cs i cc _ hci (hearP_e _ _ _)
          have HGt : Hid ((keysT cs zi).getD (.string ⟨#[]⟩) = .string ky) := by
            show _ = _
            unfold keysT
            rw [hzi, hf]
            show Value.string (cs.getD i hc0).e.key = _
            rw [← hcc, hkey]
          clear hst ha hf hma hcs hky hzi hans hek2 hcc hci hkey hcm hi
          go_wp2_with (first
            | (refine wpList_load_mid rfl 29 _ rfl b1 (o1 + k * 5) rfl _ d HR1.out hd1 hd2 (by rw [szEv]; rfl) ?_)
            | (refine wpList_store_all rfl 29 _ _ rfl 5 wr.heap.size (ecell ev0) (ecell e) rfl rfl (by exact Lv.new wr _ _) szEv rfl rfl HO1.out ?_; intro u1 hl1 k1; have HKu : Hid (Kp (fun _ => False) wr u1) := ((Kp.refl (fun _ => False) wr).alloc _).trans k1 (fun b hb e => by omega); have HLu : Hid (Lv u1 wr.heap.size (ecell e)) := hl1; have c0 : u1.cell? ⟨wr.heap.size, 0, none⟩ = some (.bool true) := (by rw [HAn.out]; exact hl1.cell (j := 0) rfl); clear hl1 k1))
          have HMu : Hid (Mm u1 m1 q1 c1 (keysT cs)) := HMm.out.keep HKu.out id
          have HAu : Hid (Ap w1 u1 m1 m2 k ap V) := HA.out.keep HKu.out (fun _ _ _ => id) id (fun _ _ => id)
          have HSf : Hid (∀ (S : Nat → Prop) (u : World), Kp S u1 u → ¬ S wr.heap.size → ¬ S m1 → u.cell? ⟨wr.heap.size, 1, none⟩ = some (.int .i64 zi) ∧ (Instr.lookup 31 (.map (some m1)) (.int .i64 zi) false).run Try.prog u = .ok (.string ky) u ∧ (loadVar 29 ⟨wr.heap.size, 0, none⟩).run Try.prog u = .ok (.agg #[.bool e.ans, .int .i64 e.id, .int .i64 e.kind, .string e.key, e.b.v]) u) := fun S u ku n1 n2 => by
            have hl := HLu.out.keep ku n1
            refine ⟨by rw [HZi.out]; exact hl.cell (j := 1) rfl, ?_, HLd.out u hl⟩
            have := look_mm uKs zKs (HMu.out.keep ku n2) zi HWF.out
            rw [HGt.out] at this
            exact this
          obtain ⟨bx, hbx⟩ : ∃ b, b = wr.heap.size := ⟨_, rfl⟩
          have HBx : Hid (bx = wr.heap.size) := hbx
          have HBm : Hid (bx ≠ m2) := by rw [hbx]; exact HBx0.out.2
          rw [← hbx] at HSf ⊢
          clear hbx HLd HLu HO1 HR1 hd1 hd2 c0
          have kds : Kp (fun _ => False) u1 u1.drew := (Kp.refl _ _).drew
          have hAp := HAu.out.keep kds (fun _ _ _ => id) id (fun _ _ => id)
          have hln : (ap ky.data.toList).length ≤ 900 := by
            obtain ⟨_, _, hS⟩ := HP.out.s ky.data.toList
            have := hS.l
            rw [List.length_take] at this
            have := HL9.out
            omega
          obtain ⟨g, cap2, w2, r9, w3, hap, hmu, hAp2, k2, k3⟩ := hAp.put (by omega) ky HKs.out e HEo.out hln
          have ka : Kp (fun _ => False) u1.drew (u1.drew.alloc (.cells #[.bool e.ans, .int .i64 e.id, .int .i64 e.kind, .string e.key, e.b.v] 29)) := (Kp.refl _ _).alloc _
          have hnb : ¬ ((V ky.data.toList).ownBlock = some bx) := fun q => by have := (ownBlock_lt (HA.out.o ky.data.toList) q).2; have := HBx.out; omega
          have hn1 : ¬ ((V ky.data.toList).ownBlock = some m1) := fun q => (HA.out.nm _ _ q).1 rfl
          have hbm : bx ≠ m2 := HBm.out
          have h12 : m1 ≠ m2 := HA.out.mm.1
          have s0 := HSf.out (fun _ => False) u1.drew kds id id
          have s1 := HSf.out (fun _ => False) _ (kds.trans ka (fun _ _ q => q)) id id
          have s2 := HSf.out (fun b => (V ky.data.toList).ownBlock = some b) w2 ((kds.mono (fun _ _ q => q.elim)).trans k2 (fun _ _ q => q)) hnb hn1
          have s3 := HSf.out (fun b => (V ky.data.toList).ownBlock = some b ∨ b = m2) w3 ((kds.mono (fun _ _ q => q.elim)).trans k3 (fun _ _ q => q)) (fun q => q.elim hnb hbm) (fun q => q.elim hn1 h12)
          have hM3 := ((HMu.out.keep kds id).keep k3 (fun q => q.elim hn1 h12))
          refine apr_region ⟨by kernel_rfl, by kernel_rfl, by kernel_rfl, by kernel_rfl, by kernel_rfl, by kernel_rfl, by kernel_rfl, by kernel_rfl, by kernel_rfl, by kernel_rfl, by kernel_rfl, by kernel_rfl, by kernel_rfl, by kernel_rfl, by kernel_rfl, by kernel_rfl, by kernel_rfl, by kernel_rfl, by kernel_rfl, by kernel_rfl, by kernel_rfl, by kernel_rfl, by kernel_rfl, by kernel_rfl, by kernel_rfl, by kernel_rfl, by kernel_rfl⟩ m1 m2 bx zi ky (V ky.data.toList) e g ((ap ky.data.toList).length + 1) cap2 (fun d _ _ _ _ h => by cases d <;> exact h) (by rfl) (by rfl) (by rfl) (by rfl) w2 w3 r9 s0 (hAp.look ky HKs.out) s1 ((hAp.keep ka (fun _ _ _ => id) id (fun _ _ => id)).look ky HKs.out) s2 s3 hap hmu ?_ ?_
          all_goals
            have HA3 : Hid (Ap _ _ _ _ _ _ _) := hAp2
            have HM3 : Hid (Mm _ _ _ _ _) := hM3
            clear hap hmu hAp2 k2 k3 ka hnb hn1 hbm h12 s0 s1 s2 s3 hM3 hAp hln kds
            simp only [Act.put, List.setIfInBounds_toArray, List.set_cons_succ, List.set_cons_zero]
            go_wp2
            go_roundg (m - (k + 1))
            case rel =>
              refine ⟨k + 1, q1, c1, cs', _, _, by omega, rfl, by first | rw [HK1'.out] | rfl | go_num, HA3.out, ?_, by have := HQ.out; show _ ≤ _; omega, HP2.out⟩
              show Mm _ _ _ _ _
              rw [HKT.out]
              exact HM3.out
            case measure => omega
      · have hkm : k = m := by omega
        subst hkm
        have htk : es.take k = es := List.take_of_length_le (by have := HJ.out.l; omega)
        rw [htk] at HP
        obtain ⟨q, c9, ⟨D, hown, hYs⟩, hq9⟩ := HA.out.a
        have HD : Hid (∀ s : List UInt8, (ap s = [] → Maps.has D (.string s) = false) ∧ (ap s ≠ [] → Maps.has D (.string s) = true ∧ ∀ y, D.atKey (.string s) y = .held (V s))) := fun s => ⟨fun e => hYs.no s (by rw [if_pos e]), fun e => hYs.yes s _ (by rw [if_neg e])⟩
        have HCA : Hid (chk es = true ↔ ∀ s, chk (ap s) = true) := HP.out.chk (by have := HJ.out.l; have := HL9.out; omega)
        have HRow : Hid (∀ (s : List UInt8) (u : World), Kp (fun _ => False) wr u → Calls Try.prog 12 #[V s] u fun r w' => r = .returned (.bool (chk (ap s))) ∧ Kp (fun _ => False) u w') := fun s u ku => by
          obtain ⟨pq, cq, eq, hfl⟩ := own_fl (HA.out.o s)
          rw [eq]
          exact check_ok _ pq cq (ap s) u (hfl.keep ku (fun _ _ => id)) (fun x hx => (HA.out.e s x hx).keep (HA.out.k.trans ku (fun _ _ e => e))) (by
            obtain ⟨_, _, hS⟩ := HP.out.s s
            have := hS.l
            have := HJ.out.l
            have := HL9.out
            omega)
        have HVs : Hid (∀ s, ∃ pq nq cq, V s = .slice pq nq cq) := fun s => by
          obtain ⟨pq, cq, eq, _⟩ := own_fl (HA.out.o s)
          exact ⟨pq, _, cq, eq⟩
        have HKw : Hid (Kp (fun _ => False) w wr) := HK1.out.trans HA.out.k (fun _ _ e => e)
        have HOw : Hid (wr.ownsMap Try.prog 9 idR m2 q D) := hown
        clear hown hYs hq9 htk HA HMm HP HA0 HM0 HCk HQ
        go_wp2_with (at_range; refine wpList_range_own _ rfl _ 32 rfl 9 22 strL uAp _ m2 q _ rfl HOw.out ?_; intro w5 hrg5 hg5 hs5)
        have HKr : Hid (Kp (fun _ => False) wr w5) := (grownBy_kp hg5).mono (fun b _ e => by cases e)
        obtain ⟨wO, hwO⟩ : ∃ x, x = wr := ⟨_, rfl⟩
        rw [← hwO] at HKr HRow HKw
        obtain ⟨rr, hrr⟩ : ∃ b, b = wr.heap.size := ⟨_, rfl⟩
        have HRr : Hid (rr = wO.heap.size) := by rw [hwO]; exact hrr
        rw [← hrr] at hrg5 ⊢
        have HRg : Hid (w5.ranges Try.prog 9 idR m2 rr q D (Maps.has D) (Maps.size D)) := hrg5
        clear hrr hrg5 hg5 hs5 hwO
        go_loopg [7] (Maps.size D) (fun gk bv wz => ∃ (left : Lit → Bool) (cnt : Nat) (b : Bool), cnt = gk ∧ bv = .bool b ∧ Hid (wz.ranges Try.prog 9 idR m2 rr q D left cnt) ∧ Hid (Kp (fun _ => False) wO wz) ∧ Hid (b = true ↔ ∀ s, Maps.has D (.string s) = true → left (.string s) = false → chk (ap s) = true))
        case atStart => exact ⟨_, _, true, rfl, rfl, HRg.out, HKr.out, ⟨fun _ s h1 h2 => (by rw [h1] at h2; cases h2), fun _ => rfl⟩⟩
        case round =>
          obtain ⟨left, cnt, b, rfl, rfl, HG, HKz, HB⟩ := hrel
          go_wp2_with (at_next; refine wpList_next_ranges _ rfl _ rfl 9 strL idR (fun x : ByteArray => .string x) id (fun key kl hk => str_key hk) (fun v _ _ => ⟨v, rfl⟩) m2 rr q _ _ _ rfl HG.out ?_ ?_)
          · intro hc0 hl0
            have HBA : Hid (b = chk es) := by
              show _ = _
              rw [Bool.eq_iff_iff, HB.out, HCA.out]
              refine ⟨fun h s => ?_, fun h s _ _ => h s⟩
              by_cases e : ap s = []
              · rw [e]; exact chk_nil
              · exact h s ((HD.out s).2 e).1 (hl0 _)
            obtain ⟨C, hC⟩ : ∃ C, C = chk es := ⟨_, rfl⟩
            rw [← hC] at HC HBA
            have hbc : b = C := HBA.out
            subst hbc
            have HKy : Hid (Kp (fun _ => False) w wr) := HKw.out.trans HKz.out (fun _ _ e => e)
            clear hC HB HG hc0 hl0 HCA HD HRow HVs
            have hbb : (b == b) = true := by simp
            go_wp2_with fail
            refine (HC.out _ HKy.out).mono ?_
            rintro e3 w7 ⟨rfl, k7⟩
            have HK7 : Hid (Kp (fun _ => False) w w7) := HKy.out.trans k7 (fun _ _ e => e)
            clear k7 HC
            go_wp2_with fail
            refine (HC0.out w7).mono ?_
            rintro e4 w8 ⟨rfl, k8⟩
            have HK8 : Hid (Kp (fun _ => False) w w8) := HK7.out.trans k8 (fun _ _ e => e)
            clear k8 HC0
            go_wp2
            go_ret
            exact ⟨rfl, HK8.out⟩
          · intro x cv kl yd yp w2 cnt2 hkey hlk hv hat hrg2 hlt2 hg2 hs2 hen
            obtain ⟨x2, hx2, hx3, _⟩ := Go.WideMaps.string_of_keyOf Try.underlying9 hkey
            have hxx : x = x2 := by cases hx2; rfl
            subst hxx
            obtain ⟨s, hs⟩ : ∃ s, s = x.data.toList := ⟨_, rfl⟩
            rw [← hs] at hx3
            subst hx3
            have hy : yd = .held cv := by
              have : some (DataW.held cv, ([] : List MemPlace)) = some (yd, yp) := hv
              cases this
              rfl
            have hne : ap s ≠ [] := fun e => by
              have h1 := atKey_of_not_has ((HD.out s).1 e) (DataW.held (Value.bool true))
              have h2 := atKey_of_not_has ((HD.out s).1 e) (DataW.held (Value.bool false))
              rw [hat] at h1 h2
              rw [h1] at h2
              cases h2
            have hcv : cv = V s := by
              have h1 := ((HD.out s).2 hne).2 (DataW.held (Value.bool true))
              rw [hat, hy] at h1
              injection h1
            have HHas : Hid (Maps.has D (.string s) = true) := ((HD.out s).2 hne).1
            obtain ⟨pq, nq, cq, hV⟩ := HVs.out s
            rw [hV] at hcv
            subst hcv
            have k2 : Kp (fun b => b = rr) wr w2 := (grownBy_kp hg2).mono (fun b _ e => by cases e; rfl)
            have HK2 : Hid (Kp (fun _ => False) wO w2) := HKz.out.trans k2 (fun b hb e => by have := HRr.out; omega)
            have HCs : Hid (Calls _ _ _ w2 _) := HRow.out s w2 HK2.out
            rw [hV] at HCs
            have HG2 : Hid (w2.ranges Try.prog 9 idR m2 rr q D (fun z => left z && !z.sameKey (.string s)) cnt2) := hrg2
            have HLk : Hid (left (.string s) = true) := hlk
            have HLt : Hid (cnt2 < cnt) := hlt2
            obtain ⟨cb, hcb⟩ : ∃ b, b = chk (ap s) := ⟨_, rfl⟩
            have HCb : Hid (cb = chk (ap s)) := hcb
            rw [← hcb] at HCs
            have hen' : (Instr.entry (.pointer (some ⟨rr, 0, none⟩))).run Try.prog w2 = .ok (.tuple #[.string x, .slice pq nq cq]) w2 := hen
            clear hkey hlk hv hat hrg2 hlt2 hg2 hs2 hen hx2 hs hy hne hV k2 hcb HRow HVs
            cases cb with
            | true =>
              go_wp2_with (go_at_call 12; refine HCs.out.mono ?_; rintro e9 u8 ⟨rfl, k8⟩)
              go_roundg cnt2
              case rel =>
                refine ⟨_, cnt2, b, rfl, rfl, ranges_keep HG2.out k8, HK2.out.trans k8 (fun _ _ e => e), ?_⟩
                show _ ↔ _
                rw [HB.out]
                refine ⟨fun h t h1 h2 => ?_, fun h t h1 h2 => h t h1 (by rw [h2]; rfl)⟩
                by_cases e : t = s
                · subst e; exact HCb.out.symm
                · refine h t h1 ?_
                  have : (Lit.string t).sameKey (.string s) = false := Maps.sameKey_ne (fun q => e (by injection q))
                  rw [this] at h2
                  simpa using h2
              case measure => exact HLt.out
            | false =>
              go_wp2_with (go_at_call 12; refine HCs.out.mono ?_; rintro e9 u8 ⟨rfl, k8⟩)
              go_roundg cnt2
              case rel =>
                refine ⟨_, cnt2, false, rfl, rfl, ranges_keep HG2.out k8, HK2.out.trans k8 (fun _ _ e => e), ?_⟩
                show _ ↔ _
                refine ⟨fun h => (by cases h), fun h => ?_⟩
                have h1 := h s HHas.out (by
                  have : (Lit.string s).sameKey (.string s) = true := by simp [Lit.sameKey]
                  rw [this]
                  simp)
                rw [← HCb.out] at h1
                exact h1
              case measure => exact HLt.out
end Go.Proofs.Ytbbgplnenbkfeaa
