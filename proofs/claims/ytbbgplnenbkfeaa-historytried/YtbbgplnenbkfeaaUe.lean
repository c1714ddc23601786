/- Rows of calls of one's own; reading a journal (laid by scripts/mkue.py). -/
import Derived.Test.YtbbgplnenbkfeaaUd
namespace Go.Proofs.Ytbbgplnenbkfeaa
set_option linter.unusedVariables false
set_option linter.unusedSimpArgs false
open Go.RowKit Go.Deep Go.Maps

theorem wpList_ldg {ops : Array Oper} {rest : List Oper} {op : Oper} {a : Act} {w : World} {Q : Exit → Act → World → Prop} (hw : Region.wanted op (yielded ops a.tmps) = true) (ty : TypeId) (x : Operand) (ho : op.op = .load ty x)
    (b o : Nat) (hx : a.eval x = .pointer (some ⟨b, o, none⟩)) (cs : List Value) (d : TypeDesc) (hc : w.rangeAt b o cs)
    (hu : Try.prog.underlying ty = some d) (hd : d.isRow = true) (hi : (Try.prog.info? ty).map (·.size) = some cs.length)
    (h : wpList Try.prog ops Q rest (a.put op.dst (.agg cs.toArray)) w) : wpList Try.prog ops Q (op :: rest) a w :=
  wpList_step fun K hK => by simp only [hw, if_true]; exact wp_load_mid ty x ho b o hx cs d hc hu hd hi (hK _ _ h)
theorem infoHc0 : (Try.prog.info? 65).map (fun i => (i.zero.map (·.cells.size), i.size, i.bytes)) = some (some 10, 10, 120) := by kernel_rfl
theorem infoHc : ∃ i z, Try.prog.info? 65 = some i ∧ i.zero = some z ∧ i.size = 10 ∧ i.bytes = 120 ∧ z.cells.size = 10 := by
  obtain ⟨i, hi, he⟩ := Option.map_eq_some_iff.1 infoHc0
  simp only [Prod.mk.injEq] at he
  obtain ⟨h1, h2, h3⟩ := he
  obtain ⟨z, hz, h4⟩ := Option.map_eq_some_iff.1 h1
  exact ⟨i, z, hi, hz, h2, h3, h4⟩
/-- a row of calls of one's own; their bytes were there in w0 -/
structure Rd (w0 v : World) (a : Value) (cs : List Hc) : Prop where
  o : v.ownsRow w0.heap.size 65 10 a cs.length (hflat cs)
  k : Kp (fun _ => False) w0 v
  c : ∀ y ∈ cs, y.ok w0
theorem Rd.keep {w0 v v' : World} {a : Value} {cs : List Hc} (h : Rd w0 v a cs) (k : Kp (fun _ => False) v v') : Rd w0 v' a cs :=
  ⟨ownsRow_keep h.o k (fun _ _ => id), h.k.trans k (fun _ _ e => e), h.c⟩
theorem Rd.nil (w0 : World) : Rd w0 w0 (.slice none 0 0) [] := ⟨World.ownsRow_nil _ _ _ _, Kp.refl _ _, fun y hy => (by cases hy)⟩
theorem Hc.ok.one {w : World} {c : Hc} (h : c.ok w) : ∀ u ∈ hcell c, u.oneCell' = true := by
  have := hc_one c h.e.b.one h.g.one
  intro u hu
  exact (Array.all_eq_true_iff_forall_mem.1 this) u (by simpa using hu)
theorem hflat_one (c : Hc) : hflat [c] = hcell c := by show hcell c ++ [] = _; rw [List.append_nil]
set_option maxRecDepth 100000 in
theorem wpList_app_h {ops : Array Oper} {rest : List Oper} {op : Oper} {a : Act} {Q : Exit → Act → World → Prop} {w0 v : World} {a' : Value} {cs : List Hc} (h : Rd w0 v a' cs) (c : Hc) (hc : c.ok w0) (hz : cs.length ≤ 1000)
    (hgd : op.guard = none) (o1 o2 : Operand) (ho : op.op = .call { callee := .builtin .append, args := #[o1, o2], argTypes := #[41, 41] }) (h1 : a.eval o1 = a') (h2 : a.eval o2 = .slice (some ⟨v.heap.size, 0, none⟩) 1 1)
    (hK : ∀ a2 w3, Rd w0 w3 a2 (cs ++ [c]) → Kp (fun b => a'.ownBlock = some b) v w3 → (∀ b, a2.ownBlock = some b → a'.ownBlock = some b ∨ v.heap.size ≤ b) → wpList Try.prog ops Q rest (a.put op.dst a2) w3) :
    wpList Try.prog ops Q (op :: rest) a (v.alloc (.cells (hcell c).toArray 65)) := by
  obtain ⟨ti, tz, hi1, hi2, hi3, hi4, hi5⟩ := infoHc
  have ka : Kp (fun _ => False) v (v.alloc (.cells (hcell c).toArray 65)) := (Kp.refl _ _).alloc _
  have hr := h.keep ka
  have hlv := Lv.new v (hcell c).toArray 65
  have h1c := hc.one
  have hs0 := h.k.size
  have z1 : (v.alloc (.cells (hcell c).toArray 65)).heap.size = v.heap.size + 1 := by simp
  refine wpList_append_own_src _ hgd o1 o2 41 41 ho w0.heap.size 65 ti tz 10 120 Try.underlying41 hi1 hi2 hi3 hi4 hi5 (by decide) a' cs.length (hflat cs) h1 hr.o _ 1 (hcell c) h2 (Src.ofSlice _ Try.underlying41 ⟨v.heap.size, 0, none⟩ 1 1 (hcell c) rfl (fun j u hj => by rw [Addr.add_mid, Nat.zero_add]; exact hlv.cell hj) h1c) (by unfold maxLen; omega) (by omega) (by omega) ?_
  intro a2 w3 hown hk hblk
  have k3 := grownBy_kp hk
  refine hK a2 w3 ⟨?_, hr.k.app hr.o k3, fun y hy => ?_⟩ ((ka.mono (fun _ _ e => e.elim)).trans k3 (fun _ _ e => e)) (fun b hb => ?_)
  · rw [List.length_append, hflat_append, hflat_one]
    exact hown
  · rcases List.mem_append.1 hy with e | e
    · exact h.c y e
    · rw [List.mem_singleton] at e; subst e; exact hc
  · rcases hblk with e2 | e2
    · exact Or.inl (by rw [← e2]; exact hb)
    · rw [e2] at hb
      have := Option.some.inj hb
      right; omega
theorem Rd.set {w0 v v' : World} {g n cap k : Nat} {cs : List Hc} {d : Hc} (h : Rd w0 v (.slice (some ⟨g, 0, none⟩) n cap) cs) (hn : cs.length = n) (hd : d.ok w0) (k9 : Kp (fun b => b = g) v v') (ho : v'.ownsRow w0.heap.size 65 10 (.slice (some ⟨g, 0, none⟩) n cap) n (hflat (cs.set k d))) : Rd w0 v' (.slice (some ⟨g, 0, none⟩) n cap) (cs.set k d) := by
  refine ⟨by rw [List.length_set, hn]; exact ho, h.k.trans k9 (fun b hb e => ?_), fun y hy => ?_⟩
  · have := (ownBlock_lt h.o (g := g) rfl).1
    omega
  · rcases List.mem_or_eq_of_mem_set hy with e | e
    · exact h.c y e
    · subst e; exact hd

abbrev never : Int := 9223372036854775807
def findC (cs : List Hc) (z : Int) : Option Nat := cs.findIdx? (fun c => c.e.id == z)
def newC (e : Ev) (k : Nat) : Hc := ⟨e, k, never, false, 0, by0⟩
/-- the calls, behind one more line -/
def stp (cs : List Hc) (k : Nat) (e : Ev) : Option (List Hc) :=
  match e.ans, findC cs e.id with
  | false, none => if mayAskP e then some (cs ++ [newC e k]) else none
  | true, some i => if mayHearP (cs.getD i hc0) e then some (cs.set i (hearP (cs.getD i hc0) e k)) else none
  | _, _ => none
def rdF : List Ev → Nat → List Hc → Option (List Hc)
  | [], _, cs => some cs
  | e :: es, k, cs => (stp cs k e).bind (rdF es (k + 1))
/-- the calls of a journal -/
def rd (es : List Ev) : Option (List Hc) := rdF es 0 []
def placeT (cs : List Hc) : Int → Option Value := fun z => (findC cs z).map (fun i : Nat => .int .i64 (i : Int))
theorem findC_lt {cs : List Hc} {z : Int} {i : Nat} (h : findC cs z = some i) : i < cs.length := by
  unfold findC at h
  rw [List.findIdx?_eq_some_iff_getElem] at h
  exact h.1
theorem placeT_new (cs : List Hc) (c : Hc) (h : findC cs c.e.id = none) : upd (placeT cs) c.e.id (.int .i64 (cs.length : Int)) = placeT (cs ++ [c]) := by
  funext z
  unfold upd placeT findC
  rw [List.findIdx?_append]
  by_cases hz : z = c.e.id
  · subst hz
    unfold findC at h
    rw [if_pos rfl, h]
    simp
  · rw [if_neg hz]
    cases hf : cs.findIdx? (fun c => c.e.id == z) with
    | some i => simp
    | none =>
      have : (c.e.id == z) = false := by simpa using fun e => hz e.symm
      simp [this]
theorem placeT_set (cs : List Hc) (i : Nat) (d : Hc) (hd : ∀ c, cs[i]? = some c → d.e = c.e) : placeT (cs.set i d) = placeT cs := by
  funext z
  unfold placeT findC
  congr 1
  have e : ∀ (l : List Hc) (p : Int → Bool), l.findIdx? (fun c => p c.e.id) = (l.map (fun c => c.e.id)).findIdx? p := fun l p => by rw [List.findIdx?_map]; rfl
  rw [e (cs.set i d) (fun x => x == z), e cs (fun x => x == z)]
  congr 1
  rw [List.map_set]
  by_cases hi : i < cs.length
  · have := hd cs[i] (List.getElem?_eq_getElem hi)
    rw [this]
    have h2 : cs[i].e.id = (cs.map (fun c => c.e.id))[i]'(by simpa using hi) := by simp
    rw [h2, List.set_getElem_self]
  · rw [List.set_eq_of_length_le (by simpa using hi)]
theorem hearP_e (c : Hc) (e : Ev) (t : Int) : (hearP c e t).e = c.e := by unfold hearP; split <;> rfl
theorem hearP_ok {w : World} {c : Hc} {e : Ev} {t : Nat} (hc : c.ok w) (he : e.ok w) (ht : t ≤ 1000) : (hearP c e t).ok w := by
  unfold hearP
  split
  · exact ⟨hc.e, he.b, hc.f, by dsimp; omega⟩
  · exact ⟨hc.e, hc.g, hc.f, hc.t⟩
theorem newC_ok {w : World} {e : Ev} {k : Nat} (he : e.ok w) (hk : k ≤ 1000) : (newC e k).ok w := ⟨he, by0_ok w, by dsimp [newC]; omega, by dsimp [newC, never]; omega⟩
theorem uPl : Try.prog.underlying 61 = some (.map 3 3) := Try.underlying61
theorem zPl (w : World) : (zeroValue 3).run Try.prog w = .ok (.int .i64 0) w := by kernel_rfl
theorem wrapK {k : Nat} (h : k ≤ 1000) : wrap64 ((k : Int) + 1) = ((k + 1 : Nat) : Int) := by unfold wrap64; omega

set_option maxRecDepth 100000 in
set_option maxHeartbeats 6400000 in
theorem read_ok (Z : Nat → Prop) (p : Option Addr) (cap : Nat) (es : List Ev) (w : World) (h : Fl w Z p (eflat es)) (he : ∀ e ∈ es, e.ok w) (hl : es.length ≤ 900) :
    Calls Try.prog 18 #[.slice p es.length cap] w fun r w' => ∃ v, r = .returned (.tuple #[v, .bool (rd es).isSome]) ∧ Kp (fun _ => False) w w' ∧ ∀ cs, rd es = some cs → Rd w w' v cs ∧ cs.length ≤ es.length := by
  obtain ⟨L, hL⟩ : ∃ L, L = es.length := ⟨_, rfl⟩
  have HL : Hid (L = es.length ∧ L ≤ 900) := ⟨hL, by omega⟩
  rw [← hL]
  have hL9 : (L : Int) ≤ 900 := by omega
  have HF : Hid (Fl w Z p (eflat es)) := h
  have HE : Hid (∀ e ∈ es, e.ok w) := he
  obtain ⟨R, hR⟩ : ∃ R, R = rd es := ⟨_, rfl⟩
  have HR : Hid (R = rd es) := hR
  rw [← hR]
  clear h he hl hL hR
  have hmm : ∀ (t : TypeId) (w : World), (Instr.makeMap t none).run Try.prog w = .ok (.map (some w.heap.size)) (w.alloc (.map #[] 0)) := fun _ _ => rfl
  go_enter Try.func18, Try.ntmps18
  go_wp2
  clear hmm
  obtain ⟨w1, hw1⟩ : ∃ x, x = w.alloc (.map #[] 0) := ⟨_, rfl⟩
  have HM1 : Hid (Mm w1 w.heap.size 0 0 (fun _ => none)) := by rw [hw1]; exact Mm.made w
  have HK1 : Hid (Kp (fun _ => False) w w1) := by rw [hw1]; exact (Kp.refl _ _).alloc _
  rw [← hw1]
  obtain ⟨m, hm⟩ : ∃ m, m = w.heap.size := ⟨_, rfl⟩
  rw [← hm] at HM1 ⊢
  have HMm : Hid (w.heap.size ≤ m) := by rw [hm]; exact Nat.le_refl _
  clear hw1 hm
  go_loopg [4, 13] L (fun gk av iv wr => ∃ (k q c : Nat) (a' : Value) (cs : List Hc), k ≤ L ∧ gk = L - k ∧ iv = .int .i64 k ∧ a' = av ∧ Hid (Rd w wr a' cs) ∧ Hid (Mm wr m q c (placeT cs)) ∧ Hid (a'.ownBlock ≠ some m) ∧ Hid (q ≤ k ∧ cs.length ≤ k) ∧ Hid (R = rdF (es.drop k) k cs))
  case atStart => exact ⟨0, 0, 0, .slice none 0 0, [], Nat.zero_le _, rfl, rfl, rfl, (Rd.nil w).keep HK1.out, HM1.out, fun e => (by cases e), ⟨Nat.le_refl _, Nat.le_refl _⟩, HR.out⟩
  case round =>
    obtain ⟨k, q, c, a', cs, hk, rfl, rfl, rfl, HA, HM, HB, HQ, HRR⟩ := hrel
    by_cases hlt : (k : Int) < (L : Int)
    · have hkl : k < es.length := by have := HL.out; omega
      have hk9 : k ≤ 900 := by have := HL.out; omega
      obtain ⟨b1, o1, rfl, _, r1⟩ := fl_e (HF.out.keep HA.out.k (fun _ _ => id)) hkl
      obtain ⟨e, hee⟩ : ∃ e, e = es[k] := ⟨_, rfl⟩
      rw [← hee] at r1
      have hek : e.ok w := by rw [hee]; exact HE.out _ (List.getElem_mem hkl)
      have HEK : Hid (e.ok w) := hek
      have HR1 : Hid (wr.rangeAt b1 (o1 + k * 5) (ecell e)) := r1
      have HO1 : Hid ((ecell e).toArray.all (·.oneCell') = true) := ec_one e hek.b.one
      have HRN : Hid (R = (stp cs k e).bind (rdF (es.drop (k + 1)) (k + 1))) := by
        show _ = _
        rw [HRR.out, List.drop_eq_getElem_cons hkl, ← hee]; rfl
      have HWF : Hid ((Lit.int .i64 e.id).wf = true) := z_wf hek.i
      have HK1' : Hid (wrap64 ((k : Int) + 1) = ((k + 1 : Nat) : Int)) := wrapK (by omega)
      have HK9 : Hid (k ≤ 900) := hk9
      obtain ⟨d, hd1, hd2⟩ := dsEv
      obtain ⟨u, hu⟩ : ∃ u, u = (wr.alloc (.cells (ecell ev0).toArray 29)) := ⟨_, rfl⟩
      clear r1 hek hee hkl hk9 HRR hu
      obtain ⟨ans, zi, kd, key, b⟩ := e
      cases ans with
      | false =>
        cases hf : findC cs zi with
        | none =>
          have hT : placeT cs zi = none := by unfold placeT; rw [hf]; rfl
          have HAsk : Hid (∀ v, Kp (fun _ => False) w v → Calls _ _ _ v _) := fun v kv => mayAsk_ok ⟨false, zi, kd, key, b⟩ v (HEK.out.b.keep kv)
          have HS : Hid (stp cs k ⟨false, zi, kd, key, b⟩ = if mayAskP ⟨false, zi, kd, key, b⟩ then some (cs ++ [newC ⟨false, zi, kd, key, b⟩ k]) else none) := by show _ = _; unfold stp; rw [hf]
          obtain ⟨r, hr⟩ : ∃ r, r = mayAskP ⟨false, zi, kd, key, b⟩ := ⟨_, rfl⟩
          rw [← hr] at HS HAsk
          have HFN : Hid (findC cs zi = none) := hf
          clear hr hf
          cases r with
          | false =>
            go_wp2_with (first
            | (refine wpList_load_mid rfl 29 _ rfl b1 (o1 + k * 5) rfl _ d HR1.out hd1 hd2 (by rw [szEv]; rfl) ?_)
            | (refine wpList_store_all rfl 29 _ _ rfl 5 wr.heap.size (ecell ev0) (ecell ⟨false, zi, kd, key, b⟩) rfl rfl (by exact Lv.new wr _ _) szEv rfl rfl HO1.out ?_; intro u1 hl1 k1; have HKu : Hid (Kp (fun _ => False) wr u1) := ((Kp.refl (fun _ => False) wr).alloc _).trans k1 (fun b hb e => by omega); have HLu : Hid (Lv u1 wr.heap.size (ecell ⟨false, zi, kd, key, b⟩)) := hl1; have c0 : u1.cell? ⟨wr.heap.size, 0, none⟩ = some (.bool false) := hl1.cell (j := 0) rfl; have c1 : u1.cell? ⟨wr.heap.size, 1, none⟩ = some (.int .i64 zi) := hl1.cell (j := 1) rfl; clear hl1 k1)
            | (refine wpList_look_mm rfl _ _ rfl uPl zPl m q c (placeT cs) (HM.out.keep HKu.out id) rfl zi HWF.out rfl ?_; rw [hT])
            | (refine wpList_ldg (by first | rfl | go_simp) 29 _ rfl wr.heap.size 0 rfl _ d HLu.out.r hd1 hd2 (by rw [szEv]; rfl) ?_)
            | (go_at_call 27; refine (HAsk.out _ (HA.out.k.trans HKu.out (fun _ _ e => e))).mono ?_; rintro e9 w9 ⟨rfl, k9⟩; have c09 := k9.cellv c0 id))
            go_quiet (fail)
            go_wp2
            go_ret2
            have e1 : R = none := by rw [HRN.out, HS.out]; rfl
            subst e1
            exact ⟨_, rfl, ((HA.out.k.trans HKu.out (fun _ _ e => e)).trans k9 (fun _ _ e => e)).drewN _, fun cs' h => (by cases h)⟩
          | true =>
            obtain ⟨qa, ca, hav, _⟩ := own_fl HA.out.o
            subst hav
            obtain ⟨n, hn⟩ : ∃ n, n = cs.length := ⟨_, rfl⟩
            have HNn : Hid (n = cs.length) := hn
            rw [← hn] at HA HB ⊢
            clear hn
            have HAU : Hid (∀ x, Kp (fun b => b = m) wr x → Rd w x (.slice qa n ca) cs) := fun x kx => by
              obtain ⟨h1, h2, h3⟩ := HA.out
              exact ⟨ownsRow_keep h1 kx (fun g hg e => HB.out (by rw [hg, e])), h2.trans kx (fun b hb e => by have := HMm.out; omega), h3⟩
            go_wp2_with (first
            | (refine wpList_load_mid rfl 29 _ rfl b1 (o1 + k * 5) rfl _ d HR1.out hd1 hd2 (by rw [szEv]; rfl) ?_)
            | (refine wpList_store_all rfl 29 _ _ rfl 5 wr.heap.size (ecell ev0) (ecell ⟨false, zi, kd, key, b⟩) rfl rfl (by exact Lv.new wr _ _) szEv rfl rfl HO1.out ?_; intro u1 hl1 k1; have HKu : Hid (Kp (fun _ => False) wr u1) := ((Kp.refl (fun _ => False) wr).alloc _).trans k1 (fun b hb e => by omega); have HLu : Hid (Lv u1 wr.heap.size (ecell ⟨false, zi, kd, key, b⟩)) := hl1; have c0 : u1.cell? ⟨wr.heap.size, 0, none⟩ = some (.bool false) := hl1.cell (j := 0) rfl; have c1 : u1.cell? ⟨wr.heap.size, 1, none⟩ = some (.int .i64 zi) := hl1.cell (j := 1) rfl; clear hl1 k1)
            | (refine wpList_look_mm rfl _ _ rfl uPl zPl m q c (placeT cs) (HM.out.keep HKu.out id) rfl zi HWF.out rfl ?_; rw [hT])
            | (refine wpList_ldg (by first | rfl | go_simp) 29 _ rfl wr.heap.size 0 rfl _ d HLu.out.r hd1 hd2 (by rw [szEv]; rfl) ?_)
            | (go_at_call 27; refine (HAsk.out _ (HA.out.k.trans HKu.out (fun _ _ e => e))).mono ?_; rintro e9 w9 ⟨rfl, k9⟩; have c19 := k9.cellv c1 id; have HL9 : Hid (Lv w9 wr.heap.size (ecell ⟨false, zi, kd, key, b⟩)) := HLu.out.keep k9 id; have HKw : Hid (Kp (fun _ => False) wr w9) := HKu.out.trans k9 (fun _ _ e => e); clear k9)
            | (refine wpList_put_mm rfl _ _ _ rfl uPl m q c (placeT cs) (HM.out.keep HKw.out id) rfl (by have := HQ.out; have := HK9.out; omega) zi HWF.out rfl (.int .i64 (n : Int)) rfl ?_; intro w8 hm8 k8; have HM8 : Hid (Mm w8 m (q + 1) (c + (if (placeT cs zi).isSome then 0 else 1)) (upd (placeT cs) zi (.int .i64 (n : Int)))) := hm8; have HL8 : Hid (Lv w8 wr.heap.size (ecell ⟨false, zi, kd, key, b⟩)) := HL9.out.keep k8 (fun e => by have := HM.out.lt; omega); have HK8 : Hid (Kp (fun b => b = m) wr w8) := (HKw.out.mono (fun _ _ e => e.elim)).trans k8 (fun _ _ e => e); have HA8 := HAU.out w8 HK8.out; clear hm8 k8)
            | (refine wpList_load_all rfl 29 _ rfl 5 wr.heap.size (ecell ⟨false, zi, kd, key, b⟩) rfl HL8.out dsEv szEv rfl ?_)
            | (refine wpList_app_h (w0 := w) (v := w8) (cs := cs) HA8 (newC ⟨false, zi, kd, key, b⟩ k) (newC_ok HEK.out (by have := HK9.out; omega)) (by have := HQ.out; have := HK9.out; omega) rfl _ _ rfl rfl rfl ?_; intro a2 w7 hr7 k7 hb7))
            go_roundg (L - (k + 1))
            case rel =>
              have kpl : placeT (cs ++ [newC ⟨false, zi, kd, key, b⟩ k]) = upd (placeT cs) zi (.int .i64 (n : Int)) := by
                rw [HNn.out]
                exact (placeT_new cs (newC ⟨false, zi, kd, key, b⟩ k) HFN.out).symm
              refine ⟨k + 1, q + 1, c + (if (placeT cs zi).isSome then 0 else 1), a2, cs ++ [newC ⟨false, zi, kd, key, b⟩ k], by omega, rfl, by first | rw [HK1'.out] | rfl | go_num, rfl, hr7, ?_, fun e => ?_, ⟨by have := HQ.out; omega, by have := HQ.out; rw [List.length_append]; simp; omega⟩, by show _ = _; rw [HRN.out, HS.out]; rfl⟩
              · show Mm _ _ _ _ _
                rw [kpl]
                exact HM8.out.keep k7 (fun e => HB.out e)
              · rcases hb7 m e with e2 | e2
                · exact HB.out e2
                · have := HM.out.lt; have := HK8.out.size; omega
            case measure => omega
        | some i =>
          have hT : placeT cs zi = some (.int .i64 (i : Int)) := by unfold placeT; rw [hf]; rfl
          have HS : Hid (stp cs k ⟨false, zi, kd, key, b⟩ = none) := by show _ = _; unfold stp; rw [hf]
          clear hf
          go_wp2_with (first
            | (refine wpList_load_mid rfl 29 _ rfl b1 (o1 + k * 5) rfl _ d HR1.out hd1 hd2 (by rw [szEv]; rfl) ?_)
            | (refine wpList_store_all rfl 29 _ _ rfl 5 wr.heap.size (ecell ev0) (ecell ⟨false, zi, kd, key, b⟩) rfl rfl (by exact Lv.new wr _ _) szEv rfl rfl HO1.out ?_; intro u1 hl1 k1; have HKu : Hid (Kp (fun _ => False) wr u1) := ((Kp.refl (fun _ => False) wr).alloc _).trans k1 (fun b hb e => by omega); have HLu : Hid (Lv u1 wr.heap.size (ecell ⟨false, zi, kd, key, b⟩)) := hl1; have c0 : u1.cell? ⟨wr.heap.size, 0, none⟩ = some (.bool false) := hl1.cell (j := 0) rfl; have c1 : u1.cell? ⟨wr.heap.size, 1, none⟩ = some (.int .i64 zi) := hl1.cell (j := 1) rfl; clear hl1 k1)
            | (refine wpList_look_mm rfl _ _ rfl uPl zPl m q c (placeT cs) (HM.out.keep HKu.out id) rfl zi HWF.out rfl ?_; rw [hT]))
          go_quiet (fail)
          go_wp2
          go_ret2
          have e1 : R = none := by rw [HRN.out, HS.out]; rfl
          subst e1
          exact ⟨_, rfl, (HA.out.k.trans HKu.out (fun _ _ e => e)).drewN _, fun cs' h => (by cases h)⟩

      | true =>
        cases hf : findC cs zi with
        | none =>
          have hT : placeT cs zi = none := by unfold placeT; rw [hf]; rfl
          have HS : Hid (stp cs k ⟨true, zi, kd, key, b⟩ = none) := by show _ = _; unfold stp; rw [hf]
          clear hf
          go_wp2_with (first
            | (refine wpList_load_mid rfl 29 _ rfl b1 (o1 + k * 5) rfl _ d HR1.out hd1 hd2 (by rw [szEv]; rfl) ?_)
            | (refine wpList_store_all rfl 29 _ _ rfl 5 wr.heap.size (ecell ev0) (ecell ⟨true, zi, kd, key, b⟩) rfl rfl (by exact Lv.new wr _ _) szEv rfl rfl HO1.out ?_; intro u1 hl1 k1; have HKu : Hid (Kp (fun _ => False) wr u1) := ((Kp.refl (fun _ => False) wr).alloc _).trans k1 (fun b hb e => by omega); have HLu : Hid (Lv u1 wr.heap.size (ecell ⟨true, zi, kd, key, b⟩)) := hl1; have c0 : u1.cell? ⟨wr.heap.size, 0, none⟩ = some (.bool true) := hl1.cell (j := 0) rfl; have c1 : u1.cell? ⟨wr.heap.size, 1, none⟩ = some (.int .i64 zi) := hl1.cell (j := 1) rfl; clear hl1 k1)
            | (refine wpList_look_mm rfl _ _ rfl uPl zPl m q c (placeT cs) (HM.out.keep HKu.out id) rfl zi HWF.out rfl ?_; rw [hT]))
          go_quiet (fail)
          go_wp2
          go_ret2
          have e1 : R = none := by rw [HRN.out, HS.out]; rfl
          subst e1
          exact ⟨_, rfl, (HA.out.k.trans HKu.out (fun _ _ e => e)).drewN _, fun cs' h => (by cases h)⟩

        | some i =>
          have hT : placeT cs zi = some (.int .i64 (i : Int)) := by unfold placeT; rw [hf]; rfl
          have hil := findC_lt hf
          have HCI : Hid (cs[i]? = some (cs.getD i hc0)) := by show _ = _; rw [List.getD_eq_getElem?_getD, List.getElem?_eq_getElem hil]; rfl
          have HS : Hid (stp cs k ⟨true, zi, kd, key, b⟩ = if mayHearP (cs.getD i hc0) ⟨true, zi, kd, key, b⟩ then some (cs.set i (hearP (cs.getD i hc0) ⟨true, zi, kd, key, b⟩ k)) else none) := by show _ = _; unfold stp; rw [hf]
          obtain ⟨ci, hci⟩ : ∃ ci, ci = cs.getD i hc0 := ⟨_, rfl⟩
          rw [← hci] at HCI HS
          have HCok : Hid (ci.ok w) := HA.out.c ci (List.mem_of_getElem? HCI.out)
          rcases Joins.ownsRow_forms HA.out.o with ⟨_, e2⟩ | ⟨g, ca, hav⟩
          · omega
          subst hav
          obtain ⟨n, hn⟩ : ∃ n, n = cs.length := ⟨_, rfl⟩
          have HNn : Hid (n = cs.length) := hn
          rw [← hn] at HA HB ⊢
          have hi9 : (i : Int) < (n : Int) := by omega
          clear hf hil hn hci
          have HGm : Hid (g ≠ m ∧ w.heap.size ≤ g ∧ g < wr.heap.size) := ⟨fun e => HB.out (by rw [← e]; rfl), (ownBlock_lt HA.out.o (g := g) rfl).1, (ownBlock_lt HA.out.o (g := g) rfl).2⟩
          have HAo : Hid (wr.ownsRow w.heap.size 65 10 (.slice (some ⟨g, 0, none⟩) n ca) n (hflat cs)) := by
            have := HA.out.o
            rw [← HNn.out] at this
            exact this
          have HCr : Hid (∀ x, Kp (fun _ => False) wr x → x.rangeAt g (i * 10) (hcell ci)) := fun x kx j v hv => own_cl (ownsRow_keep HAo.out kx (fun _ _ => id)) (hflat_get cs i j ci v HCI.out hv)
          have HHr : Hid (∀ v, Kp (fun _ => False) wr v → Calls _ _ _ v _) := fun v kv => mayHear_ok ci ⟨true, zi, kd, key, b⟩ g (i * 10) v (HCr.out v kv) (HEK.out.b.keep (HA.out.k.trans kv (fun _ _ e => e)))
          obtain ⟨r, hr⟩ : ∃ r, r = mayHearP ci ⟨true, zi, kd, key, b⟩ := ⟨_, rfl⟩
          rw [← hr] at HHr HS
          clear hr
          go_wp2_with (first
            | (refine wpList_load_mid rfl 29 _ rfl b1 (o1 + k * 5) rfl _ d HR1.out hd1 hd2 (by rw [szEv]; rfl) ?_)
            | (refine wpList_store_all rfl 29 _ _ rfl 5 wr.heap.size (ecell ev0) (ecell ⟨true, zi, kd, key, b⟩) rfl rfl (by exact Lv.new wr _ _) szEv rfl rfl HO1.out ?_; intro u1 hl1 k1; have HKu : Hid (Kp (fun _ => False) wr u1) := ((Kp.refl (fun _ => False) wr).alloc _).trans k1 (fun b hb e => by omega); have HLu : Hid (Lv u1 wr.heap.size (ecell ⟨true, zi, kd, key, b⟩)) := hl1; have c0 : u1.cell? ⟨wr.heap.size, 0, none⟩ = some (.bool true) := hl1.cell (j := 0) rfl; have c1 : u1.cell? ⟨wr.heap.size, 1, none⟩ = some (.int .i64 zi) := hl1.cell (j := 1) rfl; clear hl1 k1)
            | (refine wpList_look_mm rfl _ _ rfl uPl zPl m q c (placeT cs) (HM.out.keep HKu.out id) rfl zi HWF.out rfl ?_; rw [hT]))
          have HS1 : Hid (∀ x, Kp (fun _ => False) u1 x → x.cell? ⟨wr.heap.size, 0, none⟩ = some (.bool true) ∧ (loadVar 29 ⟨wr.heap.size, 0, none⟩).run Try.prog x = .ok (.agg (ecell ⟨true, zi, kd, key, b⟩).toArray) x) := fun x kx => ⟨(HLu.out.keep kx id).cell (j := 0) rfl, (HLu.out.keep kx id).load dsEv szEv rfl⟩
          have kd1 : Kp (fun _ => False) u1 u1.drew := (Kp.refl _ _).drew
          refine rd11_region ⟨by kernel_rfl, by kernel_rfl, by kernel_rfl, by kernel_rfl, by kernel_rfl, by kernel_rfl, by kernel_rfl, by kernel_rfl, by kernel_rfl, by kernel_rfl, by kernel_rfl, by kernel_rfl, by kernel_rfl, by kernel_rfl, by kernel_rfl, by kernel_rfl, by kernel_rfl, by kernel_rfl, by kernel_rfl⟩ wr.heap.size g n ca i hi9 (ecell ⟨true, zi, kd, key, b⟩).toArray r (fun d _ _ _ _ h => by cases d <;> exact h) (by rfl) (by rfl) (by rfl) (by rfl) (by rfl) (HS1.out _ kd1) (fun z => Kp (fun _ => False) u1 z) ((HHr.out _ (HKu.out.trans kd1 (fun _ _ e => e))).mono ?_) ?_
          · rintro e9 w9 ⟨rfl, k9⟩
            exact ⟨rfl, HS1.out _ (kd1.trans k9 (fun _ _ e => e)), kd1.trans k9 (fun _ _ e => e)⟩
          intro w9 k9
          have HK9' : Hid (Kp (fun _ => False) u1 w9) := k9
          clear k9 kd1
          simp only [Act.put, List.setIfInBounds_toArray, List.set_cons_succ, List.set_cons_zero]
          cases r with
          | false =>
            go_wp2
            go_ret2
            have e1 : R = none := by rw [HRN.out, HS.out]; rfl
            subst e1
            exact ⟨_, rfl, (HA.out.k.trans HKu.out (fun _ _ e => e)).trans HK9'.out (fun _ _ e => e), fun cs' h => (by cases h)⟩
          | true =>
            go_wp2_with fail
            have kd2 : Kp (fun _ => False) u1 w9.drew := HK9'.out.drew
            have kd3 : Kp (fun _ => False) wr w9.drew := HKu.out.trans kd2 (fun _ _ e => e)
            obtain ⟨⟨pb, cb, hbv, _⟩, _⟩ := HEK.out.b
            have hA9 := HA.out.keep kd3
            have ho9 := hA9.o
            rw [← HNn.out] at ho9
            refine rd12_region ⟨by kernel_rfl, by kernel_rfl, by kernel_rfl, by kernel_rfl, by kernel_rfl, by kernel_rfl, by kernel_rfl, by kernel_rfl, by kernel_rfl, by kernel_rfl, by kernel_rfl⟩ wr.heap.size g n ca i hi9 (ecell ⟨true, zi, kd, key, b⟩).toArray (k : Int) (fun d _ _ _ _ h => by cases d <;> exact h) (by rfl) (by rfl) (by rfl) (by rfl) (by rfl) (HS1.out _ kd2).2 (fun z => Kp (fun b => b = g) w9.drew z ∧ Rd w z (.slice (some ⟨g, 0, none⟩) n ca) (cs.set i (hearP ci ⟨true, zi, kd, key, b⟩ k))) ((hear_ok w.heap.size g n ca i (i * 10) cs ci ⟨true, zi, kd, key, b⟩ k w9.drew HCI.out rfl ho9 pb _ cb hbv).mono ?_) ?_
            · rintro e8 w8 ⟨rfl, k8, ho8⟩
              refine ⟨rfl, ?_, k8, hA9.set HNn.out.symm (hearP_ok HCok.out HEK.out (by have := HK9.out; omega)) k8 ho8⟩
              exact (((HLu.out.keep kd2 id).keep k8 (fun e => by have := HGm.out; omega)).load dsEv szEv rfl)
            intro w8 ⟨k8, hr8⟩
            have HK8 : Hid (Kp (fun b => b = g) w9.drew w8) := k8
            have HR8 : Hid (Rd w w8 (.slice (some ⟨g, 0, none⟩) n ca) (cs.set i (hearP ci ⟨true, zi, kd, key, b⟩ k))) := hr8
            have HKd3 : Hid (Kp (fun _ => False) wr w9.drew) := kd3
            clear k8 hr8 kd2 kd3 hA9 ho9 hbv
            simp only [Act.put, List.setIfInBounds_toArray, List.set_cons_succ, List.set_cons_zero]
            go_wp2
            go_roundg (L - (k + 1))
            case rel =>
              refine ⟨k + 1, q, c, _, cs.set i (hearP ci ⟨true, zi, kd, key, b⟩ k), by omega, rfl, by first | rw [HK1'.out] | rfl | go_num, rfl, HR8.out, ?_, fun e => HGm.out.1 (Option.some.inj e), ⟨by have := HQ.out; omega, by have := HQ.out; rw [List.length_set]; omega⟩, by show _ = _; rw [HRN.out, HS.out]; rfl⟩
              show Mm _ _ _ _ _
              rw [placeT_set cs i _ (fun c' hc' => by rw [HCI.out] at hc'; cases hc'; exact hearP_e _ _ _)]
              exact (HM.out.keep HKd3.out id).keep HK8.out (fun e => HGm.out.1 e.symm)
            case measure => omega
    · go_wp2
      go_ret2
      have e1 : R = some cs := by
        rw [HRR.out, List.drop_of_length_le (by have := HL.out; omega)]; rfl
      refine ⟨a', ?_, HA.out.k, fun cs' h => ?_⟩
      · rw [e1]; rfl
      · rw [e1] at h
        cases h
        exact ⟨HA.out, by have := HQ.out; omega⟩
end Go.Proofs.Ytbbgplnenbkfeaa
