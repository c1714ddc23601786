/- The document's calls of a journal (laid by scripts/mkvj.py). -/
import Derived.Test.YtbbgplnenbkfeaaVi
import Derived.Deep.DeepCutAuto
namespace Go.Proofs.Ytbbgplnenbkfeaa
set_option linter.unusedVariables false
set_option linter.unusedSimpArgs false
open Go.RowKit Go.Deep Go.Maps

theorem mh {ci : Hc} {ri : Rc} (h : Rl ci ri) (zi kd : Int) (key : ByteArray) (bv : Value) (xs : List Nat) : mayHearP ci ⟨true, zi, kd, key, ⟨bv, xs⟩⟩ = (!(decide (0 ≤ ri.to)) && decide (1 ≤ kd) && decide (kd ≤ 5) && key.toList.isEmpty && !((kd == 2 && ri.kind != 1) || (kd == 3 && ri.kind == 1) || (decide (0 < xs.length) && (kd != 1 || ri.kind != 2)))) := by
  unfold mayHearP
  rw [h.told, h.kd]
  dsimp only
  cases hk : key.toList.isEmpty with
  | false => simp
  | true =>
    by_cases ht : 0 ≤ ri.to
    · simp [ht]
    · by_cases k1 : kd = 1
      · subst k1
        by_cases c2 : ci.e.kind = 2
        · simp [ht, c2]
        · by_cases hx : 0 < xs.length
          · simp [ht, c2, hx]
          · simp [ht, c2, hx]
      · by_cases hx : 0 < xs.length
        · simp [ht, k1, hx]
        · by_cases k2 : kd = 2
          · subst k2; simp [ht, hx, bne]
          · by_cases k3 : kd = 3
            · subst k3; simp [ht, hx, bne]
            · by_cases k4 : kd = 4
              · subst k4; simp [ht, hx]
              · by_cases k5 : kd = 5
                · subst k5; simp [ht, hx]
                · have : ¬ (1 ≤ kd ∧ kd ≤ 5) := by omega
                  simp [ht, k1, k2, k3, k4, k5, hx]
                  intro h1
                  omega
def askB (zi t kd : Int) (nb : Nat) : Bool := decide (zi < 1) || decide (0 ≤ t) || decide (kd < 1) || decide (3 < kd) || (kd != 1 && decide (0 < nb))
theorem askB_may (ans : Bool) (zi kd : Int) (key : ByteArray) (bv : Value) (xs : List Nat) : mayAskP ⟨ans, zi, kd, key, ⟨bv, xs⟩⟩ = !(askB zi (-1) kd xs.length) := by
  unfold mayAskP askB
  dsimp only
  by_cases h1 : zi < 1
  · have : ¬ 0 < zi := by omega
    by_cases k1 : kd = 1
    · simp [h1, this, k1]
    · by_cases k2 : kd = 2 ∨ kd = 3
      · simp [h1, this, k1]
      · simp [h1, this, k1]
  · have : 0 < zi := by omega
    by_cases k1 : kd = 1
    · subst k1; simp [this]; omega
    · by_cases k2 : kd = 2
      · subst k2; simp [this]; by_cases hx : xs = [] <;> simp [hx, List.length_pos_iff] <;> omega
      · by_cases k3 : kd = 3
        · subst k3; simp [this]; by_cases hx : xs = [] <;> simp [hx, List.length_pos_iff] <;> omega
        · have : kd < 1 ∨ 3 < kd := by omega
          rcases this with q | q <;> simp [k1, k2, k3, q]
def telB1 (rto kd : Int) (ke : Bool) : Bool := decide (0 ≤ rto) || decide (kd < 1) || decide (5 < kd) || !ke
def telB2 (kd ck : Int) (nb : Nat) : Bool := (kd == 2 && ck != 1) || (kd == 3 && ck == 1) || (decide (0 < nb) && (kd != 1 || ck != 2))
theorem telB_may {ci : Hc} {ri : Rc} (h : Rl ci ri) (zi kd : Int) (key : ByteArray) (bv : Value) (xs : List Nat) : mayHearP ci ⟨true, zi, kd, key, ⟨bv, xs⟩⟩ = (!(telB1 ri.to kd key.toList.isEmpty) && !(telB2 kd ri.kind xs.length)) := by
  rw [mh h]
  unfold telB1 telB2
  by_cases h1 : 0 ≤ ri.to
  · simp [h1]
  · by_cases h2 : kd < 1
    · have : ¬ 1 ≤ kd := by omega
      simp [h2, this]
    · have : 1 ≤ kd := by omega
      by_cases h3 : 5 < kd
      · have : ¬ kd ≤ 5 := by omega
        simp [h3, this]
      · have : kd ≤ 5 := by omega
        rw [decide_eq_false h1, decide_eq_false h2, decide_eq_false h3, decide_eq_true ‹1 ≤ kd›, decide_eq_true ‹kd ≤ 5›]
        simp
set_option maxRecDepth 100000 in
theorem wpList_app_r2 {ops : Array Oper} {rest : List Oper} {op : Oper} {a : Act} {Q : Exit → Act → World → Prop} {w0 v : World} {a' : Value} {cs : List Rc} {xa : Array Value} (h : Rx w0 v a' cs) (c : Rc) (hc : c.ok w0) (hz : cs.length ≤ 1000)
    (hgd : op.guard = none) (o1 o2 : Operand) (ho : op.op = .call { callee := .builtin .append, args := #[o1, o2], argTypes := #[44, 44] }) (h1 : a.eval o1 = a') (h2 : a.eval o2 = .slice (some ⟨v.heap.size, 0, none⟩) 1 1) (hx : xa = (rcell c).toArray)
    (hK : ∀ a2 w3, Rx w0 w3 a2 (cs ++ [c]) → Kp (fun b => a'.ownBlock = some b) v w3 → (∀ b, a2.ownBlock = some b → a'.ownBlock = some b ∨ v.heap.size ≤ b) → wpList Try.prog ops Q rest (a.put op.dst a2) w3) :
    wpList Try.prog ops Q (op :: rest) a (v.alloc (.cells xa 51)) := by
  subst hx
  exact wpList_app_r h c hc hz hgd o1 o2 ho h1 h2 hK
theorem rc_mem {w v : World} {g n ca i bx k : Nat} {rs : List Rc} {ri : Rc} {zi kd : Int} {key : ByteArray} {pb : Option Addr} {nb cb : Nat} {xs : List Nat} (h : Rx w v (.slice (some ⟨g, 0, none⟩) n ca) rs) (hn : n = rs.length) (hr : rs[i]? = some ri) (hS : (v.cell? ⟨bx, 2, none⟩ = some (.int .i64 kd) ∧ v.cell? ⟨bx, 4, none⟩ = some (.slice pb nb cb))) (hb : bx ≠ g) (he : (⟨true, zi, kd, key, ⟨.slice pb nb cb, xs⟩⟩ : Ev).ok w) (hk : k ≤ 1000) :
    ((v.setCell ⟨g, i * 7 + 1, none⟩ (.int .i64 (k : Int))).cell? ⟨bx, 2, none⟩ = some (.int .i64 kd) ∧ (v.setCell ⟨g, i * 7 + 1, none⟩ (.int .i64 (k : Int))).cell? ⟨bx, 4, none⟩ = some (.slice pb nb cb)) ∧ (((v.setCell ⟨g, i * 7 + 1, none⟩ (.int .i64 (k : Int))).setCell ⟨g, i * 7 + 3, none⟩ (.int .i64 kd)).cell? ⟨bx, 2, none⟩ = some (.int .i64 kd) ∧ ((v.setCell ⟨g, i * 7 + 1, none⟩ (.int .i64 (k : Int))).setCell ⟨g, i * 7 + 3, none⟩ (.int .i64 kd)).cell? ⟨bx, 4, none⟩ = some (.slice pb nb cb)) ∧ ((((v.setCell ⟨g, i * 7 + 1, none⟩ (.int .i64 (k : Int))).setCell ⟨g, i * 7 + 3, none⟩ (.int .i64 kd)).setCell ⟨g, i * 7 + 6, none⟩ (.slice pb nb cb)).cell? ⟨bx, 2, none⟩ = some (.int .i64 kd) ∧ (((v.setCell ⟨g, i * 7 + 1, none⟩ (.int .i64 (k : Int))).setCell ⟨g, i * 7 + 3, none⟩ (.int .i64 kd)).setCell ⟨g, i * 7 + 6, none⟩ (.slice pb nb cb)).cell? ⟨bx, 4, none⟩ = some (.slice pb nb cb)) ∧ v.cell? ⟨g, i * 7 + 1, none⟩ = some (.int .i64 ri.to) ∧ v.frozen? ⟨g, i * 7 + 1, none⟩ = false ∧ (v.setCell ⟨g, i * 7 + 1, none⟩ (.int .i64 (k : Int))).cell? ⟨g, i * 7 + 3, none⟩ = some (.int .i64 ri.says) ∧ (v.setCell ⟨g, i * 7 + 1, none⟩ (.int .i64 (k : Int))).frozen? ⟨g, i * 7 + 3, none⟩ = false ∧ ((v.setCell ⟨g, i * 7 + 1, none⟩ (.int .i64 (k : Int))).setCell ⟨g, i * 7 + 3, none⟩ (.int .i64 kd)).cell? ⟨g, i * 7 + 6, none⟩ = some ri.g.v ∧ ((v.setCell ⟨g, i * 7 + 1, none⟩ (.int .i64 (k : Int))).setCell ⟨g, i * 7 + 3, none⟩ (.int .i64 kd)).frozen? ⟨g, i * 7 + 6, none⟩ = false ∧
    Rx w (((v.setCell ⟨g, i * 7 + 1, none⟩ (.int .i64 (k : Int))).setCell ⟨g, i * 7 + 3, none⟩ (.int .i64 kd)).setCell ⟨g, i * 7 + 6, none⟩ (.slice pb nb cb)) (.slice (some ⟨g, 0, none⟩) n ca) (rs.set i (rhear ri ⟨true, zi, kd, key, ⟨.slice pb nb cb, xs⟩⟩ k)) ∧ Kp (fun b => b = g) v (((v.setCell ⟨g, i * 7 + 1, none⟩ (.int .i64 (k : Int))).setCell ⟨g, i * 7 + 3, none⟩ (.int .i64 kd)).setCell ⟨g, i * 7 + 6, none⟩ (.slice pb nb cb)) := by
  have hil := (List.getElem?_eq_some_iff.1 hr).1
  have hfl := rflat_len rs
  have o0 := h.o
  rw [← hn] at o0
  have g1 : (rflat rs)[i * 7 + 1]? = some (.int .i64 ri.to) := rflat_get rs i 1 ri _ hr rfl
  have g3 : (rflat rs)[i * 7 + 3]? = some (.int .i64 ri.says) := rflat_get rs i 3 ri _ hr rfl
  have g6 : (rflat rs)[i * 7 + 6]? = some ri.g.v := rflat_get rs i 6 ri _ hr rfl
  have o1 := own_put o0 (i * 7 + 1) (.int .i64 (k : Int)) (by omega)
  have o2 := own_put o1 (i * 7 + 3) (.int .i64 kd) (by rw [List.length_set]; omega)
  have o3 := own_put o2 (i * 7 + 6) (.slice pb nb cb) (by rw [List.length_set, List.length_set]; omega)
  have k1 : Kp (fun b => b = g) v (v.setCell ⟨g, i * 7 + 1, none⟩ (.int .i64 (k : Int))) := (Kp.refl (fun b => b = g) v).setCell (fun _ => rfl) _
  have k2 : Kp (fun b => b = g) v ((v.setCell ⟨g, i * 7 + 1, none⟩ (.int .i64 (k : Int))).setCell ⟨g, i * 7 + 3, none⟩ (.int .i64 kd)) := k1.setCell (fun _ => rfl) _
  have k3 : Kp (fun b => b = g) v (((v.setCell ⟨g, i * 7 + 1, none⟩ (.int .i64 (k : Int))).setCell ⟨g, i * 7 + 3, none⟩ (.int .i64 kd)).setCell ⟨g, i * 7 + 6, none⟩ (.slice pb nb cb)) := k2.setCell (fun _ => rfl) _
  refine ⟨⟨k1.cellv hS.1 hb, k1.cellv hS.2 hb⟩, ⟨k2.cellv hS.1 hb, k2.cellv hS.2 hb⟩, ⟨k3.cellv hS.1 hb, k3.cellv hS.2 hb⟩, own_cl o0 g1, own_fz o0 _, own_cl o1 (by rw [List.getElem?_set_ne (by omega)]; exact g3), own_fz o1 _, own_cl o2 (by rw [List.getElem?_set_ne (by omega), List.getElem?_set_ne (by omega)]; exact g6), own_fz o2 _, ⟨?_, ?_, fun y hy => ?_⟩, k3⟩
  · rw [List.length_set, ← hn, rflat_set rs i ri _ _ hr]
    exact o3
  · refine h.k.trans k3 (fun b hb2 e => ?_)
    have := (ownBlock_lt h.o (g := g) rfl).1
    omega
  · rcases List.mem_or_eq_of_mem_set hy with e | e
    · exact h.c y e
    · subst e; exact rhear_ok (h.c ri (List.mem_of_getElem? hr)) he hk

set_option maxRecDepth 100000 in
set_option maxHeartbeats 12800000 in
theorem calls_ok (Z : Nat → Prop) (p : Option Addr) (cap : Nat) (es : List Ev) (w : World) (h : Fl w Z p (eflat es)) (he : ∀ e ∈ es, e.ok w) (hl : es.length ≤ 900) :
    Calls Try.prog 19 #[.slice p es.length cap] w fun r w' => ∃ v, r = .returned (.tuple #[v, .bool (rd es).isSome]) ∧ Kp (fun _ => False) w w' ∧ ∀ cs, rd es = some cs → ∃ rs, Rx w w' v rs ∧ Rls cs rs ∧ cs.length ≤ es.length := by
  obtain ⟨L, hL⟩ : ∃ L, L = es.length := ⟨_, rfl⟩
  have HL : Hid (L = es.length ∧ L ≤ 900) := ⟨hL, by omega⟩
  rw [← hL]
  have hL9 : (L : Int) ≤ 900 := by omega
  have HF : Hid (Fl w Z p (eflat es)) := h
  have HE : Hid (∀ e ∈ es, e.ok w) := he
  obtain ⟨R, hR⟩ : ∃ R, R = rd es := ⟨_, rfl⟩
  have HR : Hid (R = rd es) := hR
  rw [← hR]
  clear h he hl hL hR
  go_enter Try.func19, Try.ntmps19
  go_wp2
  go_loopg [4, 5, 14] L (fun gk av bv iv wr => ∃ (k : Nat) (a1 a2 : Value) (cs : List Hc) (rs : List Rc), k ≤ L ∧ gk = L - k ∧ iv = .int .i64 k ∧ a1 = av ∧ a2 = bv ∧ Hid (Rx w wr a1 rs) ∧ Hid (Ids w wr a2 rs) ∧ Hid (∀ b, a1.ownBlock = some b → a2.ownBlock ≠ some b) ∧ Hid (Rls cs rs ∧ Dst cs ∧ cs.length ≤ k) ∧ Hid (R = rdF (es.drop k) k cs))
  case atStart => exact ⟨0, .slice none 0 0, .slice none 0 0, [], [], Nat.zero_le _, rfl, rfl, rfl, rfl, Rx.nil w, World.ownsRow_nil _ _ _ _, fun b e => (by cases e), ⟨Rls.nil, fun i j a b h => (by simp at h), Nat.le_refl _⟩, HR.out⟩
  case round =>
    obtain ⟨k, a1, a2, cs, rs, hk, rfl, rfl, rfl, rfl, HA, HI, HB, HQ, HRR⟩ := hrel
    by_cases hlt : (k : Int) < (L : Int)
    · have hkl : k < es.length := by have := HL.out; omega
      have hk9 : k ≤ 900 := by have := HL.out; omega
      obtain ⟨b1, o1, rfl, _, r1⟩ := fl_e (HF.out.keep HA.out.k (fun _ _ => id)) hkl
      obtain ⟨e, hee⟩ : ∃ e, e = es[k] := ⟨_, rfl⟩
      rw [← hee] at r1
      have hek : e.ok w := by rw [hee]; exact HE.out _ (List.getElem_mem hkl)
      have HEK : Hid (e.ok w) := hek
      have HR1 : Hid (wr.rangeAt b1 (o1 + k * 5) (ecell e)) := r1
      have HO1 : Hid ((ecell e).toArray.all (·.oneCell') = true) := ec_one e hek.b.one
      have HRN : Hid (R = (stp cs k e).bind (rdF (es.drop (k + 1)) (k + 1))) := by
        show _ = _
        rw [HRR.out, List.drop_eq_getElem_cons hkl, ← hee]; rfl
      have HK1' : Hid (wrap64 ((k : Int) + 1) = ((k + 1 : Nat) : Int)) := wrapK (by omega)
      have HK9 : Hid (k ≤ 900) := hk9
      obtain ⟨d, hd1, hd2⟩ := dsEv
      clear r1 hek hee hkl hk9 HRR
      obtain ⟨ans, zi, kd, key, b⟩ := e
      obtain ⟨bv, xs⟩ := b
      obtain ⟨⟨pb, cb, hbv, _⟩, _⟩ := HEK.out.b
      dsimp only at hbv
      subst hbv
      obtain ⟨nb, hnb⟩ : ∃ nb, nb = xs.length := ⟨_, rfl⟩
      rw [← hnb] at HEK HR1 HO1 HRN
      have HXs : Hid (xs.length = nb) := hnb.symm
      clear hnb
      obtain ⟨qa, ca, ha1, _⟩ := own_fl HA.out.o
      subst ha1
      obtain ⟨q2, c2, ha2, hf2⟩ := own_fl HI.out
      subst ha2
      obtain ⟨n, hn⟩ : ∃ n, n = rs.length := ⟨_, rfl⟩
      have HNn : Hid (n = rs.length) := hn
      rw [← hn] at HA HI HB ⊢
      have hn9 : (n : Int) ≤ 900 := by have := HQ.out; have := HQ.out.1.l; omega
      clear hn
      have HFi : Hid (Fl wr (fun _ => True) q2 (rs.map (fun r => encI r.id))) := fun j u hj => by obtain ⟨x1, x2, x3, _, x5⟩ := hf2 j u hj; exact ⟨x1, x2, x3, trivial, x5⟩
      clear hf2
      go_wp2_with (first
        | (refine wpList_load_mid rfl 29 _ rfl b1 (o1 + k * 5) rfl _ d HR1.out hd1 hd2 (by rw [szEv]; rfl) ?_)
        | (refine wpList_store_all rfl 29 _ _ rfl 5 wr.heap.size (ecell ev0) (ecell ⟨ans, zi, kd, key, ⟨.slice pb nb cb, xs⟩⟩) rfl rfl (by exact Lv.new wr _ _) szEv rfl rfl HO1.out ?_; intro u1 hl1 k1; have HKu : Hid (Kp (fun _ => False) wr u1) := ((Kp.refl (fun _ => False) wr).alloc _).trans k1 (fun b hb e => by omega); have HLu : Hid (Lv u1 wr.heap.size (ecell ⟨ans, zi, kd, key, ⟨.slice pb nb cb, xs⟩⟩)) := hl1; have c0 : u1.cell? ⟨wr.heap.size, 0, none⟩ = some (.bool ans) := hl1.cell (j := 0) rfl; have c1 : u1.cell? ⟨wr.heap.size, 1, none⟩ = some (.int .i64 zi) := hl1.cell (j := 1) rfl; have c2' : u1.cell? ⟨wr.heap.size, 2, none⟩ = some (.int .i64 kd) := hl1.cell (j := 2) rfl; have c3 : u1.cell? ⟨wr.heap.size, 3, none⟩ = some (.string key) := hl1.cell (j := 3) rfl; have c4 : u1.cell? ⟨wr.heap.size, 4, none⟩ = some (.slice pb nb cb) := hl1.cell (j := 4) rfl; clear hl1 k1))
      have HKw : Hid (Kp (fun _ => False) w u1) := HA.out.k.trans HKu.out (fun _ _ e => e)
      obtain ⟨bx, hbx⟩ : ∃ bx, bx = wr.heap.size := ⟨_, rfl⟩
      have HBx : Hid (bx = wr.heap.size) := hbx
      rw [← hbx] at c0 c1 c2' c3 c4 HLu ⊢
      clear hbx
      go_loopg [8, 21] n (fun gk tv iv wz => ∃ (j : Nat) (t : Int), j ≤ n ∧ gk = n - j ∧ iv = .int .i64 j ∧ tv = .int .i64 t ∧ u1 = wz ∧ Hid ((t = -1 ∧ ∀ i, i < j → ∀ r, rs[i]? = some r → r.id ≠ zi) ∨ ∃ i, i < j ∧ t = (i : Int) ∧ ∃ r, rs[i]? = some r ∧ r.id = zi))
      case atStart => exact ⟨0, -1, Nat.zero_le _, rfl, rfl, rfl, rfl, Or.inl ⟨rfl, fun i hi => absurd hi (Nat.not_lt_zero _)⟩⟩
      case round =>
        obtain ⟨j, t, hj, rfl, rfl, rfl, rfl, HJ⟩ := hrel
        by_cases hjn : (j : Int) < (n : Int)
        · have hjl : j < rs.length := by have := HNn.out; omega
          obtain ⟨r, hr⟩ : ∃ r, rs[j]? = some r := ⟨_, List.getElem?_eq_getElem hjl⟩
          have HRj : Hid (rs[j]? = some r) := hr
          obtain ⟨bq, oq, rfl, _, hcell⟩ := HFi.out j (encI r.id) (by rw [List.getElem?_map, hr]; rfl)
          replace hcell := HKu.out.cellv hcell id
          obtain ⟨rid, hrid⟩ : ∃ z, z = r.id := ⟨_, rfl⟩
          have HRid : Hid (rid = r.id) := hrid
          rw [← hrid] at hcell
          have HK2' : Hid (wrap64 ((j : Int) + 1) = ((j + 1 : Nat) : Int)) := wrapK (by omega)
          clear hr hjl hrid
          by_cases hid : rid = zi
          · have HId : Hid (rid = zi) := hid
            have hid' : (rid == zi) = true := by simpa using hid
            clear hid
            go_wp2
            go_roundg (n - (j + 1))
            case rel => exact ⟨j + 1, (j : Int), by omega, rfl, by first | rw [HK2'.out] | rfl | go_num, rfl, rfl, Or.inr ⟨j, by omega, rfl, r, HRj.out, by rw [← HRid.out]; exact HId.out⟩⟩
            case measure => omega
          · have HId : Hid (rid ≠ zi) := hid
            have hid' : (rid == zi) = false := by simpa using hid
            clear hid
            go_wp2
            go_roundg (n - (j + 1))
            case rel =>
              refine ⟨j + 1, t, by omega, rfl, by first | rw [HK2'.out] | rfl | go_num, rfl, rfl, ?_⟩
              rcases HJ.out with ⟨q1, q2⟩ | ⟨i, q1, q2⟩
              · refine Or.inl ⟨q1, fun i hi r' hr' => ?_⟩
                by_cases e : i = j
                · subst e
                  rw [HRj.out] at hr'
                  cases hr'
                  rw [← HRid.out]
                  exact HId.out
                · exact q2 i (by omega) r' hr'
              · exact Or.inr ⟨i, by omega, q2⟩
            case measure => omega
        · have hjn2 : j = n := by omega
          subst hjn2
          cases ans with
          | false =>
            go_upto_region 14 with fail
            go_cut [62] (fun v wz => v = .bool (askB zi t kd nb) ∧ u1 = wz)
            case first =>
              as_aux_lemma =>
                by_cases h1 : zi < 1
                · have HB9 : Hid (askB zi t kd nb = true) := by show _ = _; unfold askB; simp [h1]
                  go_wp2
                  go_meet
                  exact ⟨by rw [HB9.out], rfl⟩
                · by_cases h2 : 0 ≤ t
                  · have HB9 : Hid (askB zi t kd nb = true) := by show _ = _; unfold askB; simp [h2]
                    go_wp2
                    go_meet
                    exact ⟨by rw [HB9.out], rfl⟩
                  · by_cases h3 : kd < 1
                    · have HB9 : Hid (askB zi t kd nb = true) := by show _ = _; unfold askB; simp [h3]
                      go_wp2
                      go_meet
                      exact ⟨by rw [HB9.out], rfl⟩
                    · by_cases h4 : 3 < kd
                      · have HB9 : Hid (askB zi t kd nb = true) := by show _ = _; unfold askB; simp [h4]
                        go_wp2
                        go_meet
                        exact ⟨by rw [HB9.out], rfl⟩
                      · by_cases h5 : kd = 1
                        · subst h5
                          have HB9 : Hid (askB zi t 1 nb = false) := by show _ = _; unfold askB; rw [decide_eq_false h1, decide_eq_false h2]; rfl
                          go_wp2
                          go_meet
                          exact ⟨by rw [HB9.out], rfl⟩
                        · have h5' : (kd != 1) = true := by simpa using h5
                          have HB9 : Hid (askB zi t kd nb = decide (0 < nb)) := by
                            show _ = _
                            unfold askB
                            rw [decide_eq_false h1, decide_eq_false h2, decide_eq_false h3, decide_eq_false h4, h5']
                            simp
                          go_wp2
                          go_meet
                          exact ⟨by rw [HB9.out], rfl⟩
            case rest =>
              obtain ⟨rfl, rfl⟩ := hcut
              have HSt : Hid ((askB zi t kd nb = true → stp cs k ⟨false, zi, kd, key, ⟨.slice pb nb cb, xs⟩⟩ = none) ∧ (askB zi t kd nb = false → findC cs zi = none ∧ stp cs k ⟨false, zi, kd, key, ⟨.slice pb nb cb, xs⟩⟩ = some (cs ++ [newC ⟨false, zi, kd, key, ⟨.slice pb nb cb, xs⟩⟩ k]))) := by
                have hx := askB_may false zi kd key (.slice pb nb cb) xs
                rw [HXs.out] at hx
                rcases HJ.out with ⟨rfl, hno⟩ | ⟨i, hi, rfl, r, hr, hid⟩
                · have hf : findC cs zi = none := rs_none HQ.out.1 HNn.out hno
                  refine ⟨fun h => ?_, fun h => ⟨hf, ?_⟩⟩
                  · unfold stp
                    rw [hf]
                    dsimp only
                    rw [hx, h]; rfl
                  · unfold stp
                    rw [hf]
                    dsimp only
                    rw [hx, h]; rfl
                · have hl2 : i < cs.length := by have := HQ.out.1.l; have := (List.getElem?_eq_some_iff.1 hr).1; omega
                  have h9 := HQ.out.1.r i _ r (List.getElem?_eq_getElem hl2) hr
                  have h8 := HQ.out.2.1.find (List.getElem?_eq_getElem hl2)
                  rw [← h9.id, hid] at h8
                  refine ⟨fun _ => ?_, fun h => ?_⟩
                  · unfold stp
                    rw [h8]
                  · exfalso
                    unfold askB at h
                    rw [decide_eq_true (show (0 : Int) ≤ (i : Int) by omega)] at h
                    simp at h
              clear HJ
              cases hab : askB zi t kd nb with
              | true =>
                as_aux_lemma =>
                  have HS : Hid (stp cs k ⟨false, zi, kd, key, ⟨.slice pb nb cb, xs⟩⟩ = none) := HSt.out.1 hab
                  clear HSt hab
                  go_wp2
                  go_ret2
                  have e1 : R = none := by rw [HRN.out, HS.out]; rfl
                  subst e1
                  exact ⟨_, rfl, HKw.out, fun cs' h => (by cases h)⟩
              | false =>
                have HIu : Hid (u1.ownsRow w.heap.size 3 1 (.slice q2 j c2) j (rs.map (fun r => encI r.id))) := by
                  have := ownsRow_keep HI.out HKu.out (fun _ _ => id)
                  rw [← HNn.out] at this
                  exact this
                have HAu : Hid (∀ x, Kp (fun b => (Value.slice q2 j c2).ownBlock = some b) u1 x → Rx w x (.slice qa j ca) rs) := fun x kx => by
                  obtain ⟨h1, h2, h3⟩ := HA.out.keep HKu.out
                  exact ⟨ownsRow_keep h1 kx (fun g hg e => HB.out g hg e), h2.trans kx (fun b hb e => by have := (ownBlock_lt HI.out e).1; omega), h3⟩
                have HNe : Hid (¬ ((Value.slice q2 j c2).ownBlock = some bx)) := fun e => by have := (ownBlock_lt HI.out e).2; have := HBx.out; omega
                have HFn : Hid (findC cs zi = none) := (HSt.out.2 hab).1
                have HS : Hid (stp cs k ⟨false, zi, kd, key, ⟨.slice pb nb cb, xs⟩⟩ = some (cs ++ [newC ⟨false, zi, kd, key, ⟨.slice pb nb cb, xs⟩⟩ k])) := (HSt.out.2 hab).2
                clear HSt hab
                obtain ⟨rr, hrr⟩ : ∃ r, r = rnew ⟨false, zi, kd, key, ⟨.slice pb nb cb, xs⟩⟩ k := ⟨_, rfl⟩
                have HRn : Hid (rr.ok w) := by rw [hrr]; exact rnew_ok HEK.out (by have := HK9.out; omega)
                have HXx : Hid (#[.int .i64 (k : Int), .int .i64 (-1), .int .i64 kd, .int .i64 0, .string key, .slice pb nb cb, .slice none 0 0] = (rcell rr).toArray) := by rw [hrr]; rfl
                have HRr : Hid (rr = rnew ⟨false, zi, kd, key, ⟨.slice pb nb cb, xs⟩⟩ k) := hrr
                have HLr : Hid (rs.length ≤ 1000) := by have := HNn.out; show _ ≤ _; omega
                clear hrr
                go_upto_region 17 with (at_builtin; refine wpList_app_id (B := w.heap.size) (v := u1) (n := j) HIu.out HKw.out.size zi (by omega) rfl _ _ rfl rfl rfl ?_; intro a3 w3 ho3 k3 hb3; replace c2' := k3.cellv c2' HNe.out; replace c3 := k3.cellv c3 HNe.out; replace c4 := k3.cellv c4 HNe.out; have HA3 : Hid (Rx w w3 (.slice qa j ca) rs) := HAu.out w3 k3; have HO3 : Hid (w3.ownsRow w.heap.size 3 1 a3 (j + 1) (rs.map (fun r => encI r.id) ++ [encI zi])) := ho3; have HB3 : Hid (∀ b, a3.ownBlock = some b → (Value.slice q2 j c2).ownBlock = some b ∨ u1.heap.size ≤ b) := hb3; have HK3 : Hid (Kp (fun b => (Value.slice q2 j c2).ownBlock = some b) u1 w3) := k3; clear ho3 k3 hb3 c0 c1)
                go_wp2_with (at_builtin; go_must (refine wpList_app_r2 (w0 := w) (v := w3) (cs := rs) HA3.out rr HRn.out HLr.out rfl _ _ rfl rfl rfl HXx.out ?_); intro a4 w4 hr4 k4 hb4; rw [HRr.out] at hr4)
                go_roundg (L - (k + 1))
                case rel =>
                  refine ⟨k + 1, a4, a3, cs ++ [newC ⟨false, zi, kd, key, ⟨.slice pb nb cb, xs⟩⟩ k], rs ++ [rnew ⟨false, zi, kd, key, ⟨.slice pb nb cb, xs⟩⟩ k], by omega, rfl, by first | rw [HK1'.out] | rfl | go_num, rfl, rfl, hr4, ?_, fun b hb4' hb3' => ?_, ⟨HQ.out.1.snoc (Rl.new _ _), HQ.out.2.1.snoc HFn.out, by have := HQ.out.2.2; simp; omega⟩, by show _ = _; rw [HRN.out, HS.out]; rfl⟩
                  · show World.ownsRow _ _ _ _ _ _ _
                    rw [List.length_append, List.map_append, ← HNn.out]
                    refine ownsRow_keep HO3.out k4 (fun b hb e => ?_)
                    rcases HB3.out b hb with q | q
                    · exact HB.out b e q
                    · have := (ownBlock_lt HA.out.o e).2
                      have := HKu.out.size
                      omega
                  · rcases hb4 b hb4' with q | q
                    · rcases HB3.out b hb3' with q' | q'
                      · exact HB.out b q q'
                      · have := (ownBlock_lt HA.out.o q).2
                        have := HKu.out.size
                        omega
                    · have := (ownBlock_lt HO3.out hb3').2
                      omega
                case measure => omega
          | true =>
            rcases HJ.out with ⟨rfl, hno⟩ | ⟨i, hi, rfl, ri, hr, hid⟩
            · have hf : findC cs zi = none := rs_none HQ.out.1 HNn.out hno
              have HS : Hid (stp cs k ⟨true, zi, kd, key, ⟨.slice pb nb cb, xs⟩⟩ = none) := by show _ = _; unfold stp; rw [hf]
              clear hno hf HJ
              as_aux_lemma =>
                go_wp2
                go_ret2
                have e1 : R = none := by rw [HRN.out, HS.out]; rfl
                subst e1
                exact ⟨_, rfl, HKw.out, fun cs' h => (by cases h)⟩
            · have hl2 : i < cs.length := by have := HQ.out.1.l; have := (List.getElem?_eq_some_iff.1 hr).1; omega
              have h9 := HQ.out.1.r i _ ri (List.getElem?_eq_getElem hl2) hr
              have h8 := HQ.out.2.1.find (List.getElem?_eq_getElem hl2)
              rw [← h9.id, hid] at h8
              obtain ⟨ci, hci⟩ : ∃ c, c = cs[i] := ⟨_, rfl⟩
              have HCi : Hid (cs[i]? = some ci) := by rw [hci]; exact List.getElem?_eq_getElem hl2
              have hgd : cs.getD i hc0 = ci := by rw [List.getD_eq_getElem?_getD, HCi.out]; rfl
              rw [← hci] at h9
              have HRl : Hid (Rl ci ri) := h9
              have HSt : Hid (stp cs k ⟨true, zi, kd, key, ⟨.slice pb nb cb, xs⟩⟩ = if mayHearP ci ⟨true, zi, kd, key, ⟨.slice pb nb cb, xs⟩⟩ then some (cs.set i (hearP ci ⟨true, zi, kd, key, ⟨.slice pb nb cb, xs⟩⟩ k)) else none) := by show _ = _; unfold stp; rw [h8]; dsimp only; rw [hgd]
              have HMh : Hid (_ = _) := telB_may h9 zi kd key (.slice pb nb cb) xs
              rcases Joins.ownsRow_forms HA.out.o with ⟨_, e2⟩ | ⟨g, ca', hav⟩
              · have := HNn.out; omega
              have hq : qa = some ⟨g, 0, none⟩ := by cases hav; rfl
              subst hq
              clear hav
              have HRi : Hid (rs[i]? = some ri) := hr
              have hi9 : (i : Int) < (j : Int) := by omega
              have HAu : Hid (Rx w u1 (.slice (some ⟨g, 0, none⟩) j ca) rs) := HA.out.keep HKu.out
              have HOu : Hid (u1.ownsRow w.heap.size 51 7 (.slice (some ⟨g, 0, none⟩) j ca) j (rflat rs)) := by
                have := HAu.out.o
                rw [← HNn.out] at this
                exact this
              have d1 : u1.cell? ⟨g, i * 7 + 1, none⟩ = some (.int .i64 ri.to) := own_cl HOu.out (rflat_get rs i 1 ri _ hr rfl)
              have d2 : u1.cell? ⟨g, i * 7 + 2, none⟩ = some (.int .i64 ri.kind) := own_cl HOu.out (rflat_get rs i 2 ri _ hr rfl)
              obtain ⟨rto, hrto⟩ : ∃ z, z = ri.to := ⟨_, rfl⟩
              obtain ⟨ck, hck⟩ : ∃ z, z = ri.kind := ⟨_, rfl⟩
              rw [← hrto] at d1 HMh
              rw [← hck] at d2 HMh
              rw [HXs.out] at HMh
              have HGx : Hid (bx ≠ g ∧ (Value.slice q2 j c2).ownBlock ≠ some g) := ⟨fun e => by have := (ownBlock_lt HA.out.o (g := g) rfl).2; have := HBx.out; omega, HB.out g rfl⟩
              clear hrto hck hr hid h9 h8 hl2 hgd hci HJ
              go_upto_region 18 with fail
              go_cut [103] (fun v wz => v = .bool (telB1 rto kd key.toList.isEmpty) ∧ u1 = wz)
              case first =>
                as_aux_lemma =>
                  by_cases h1 : 0 ≤ rto
                  · have HB9 : Hid (telB1 rto kd key.toList.isEmpty = true) := by show _ = _; unfold telB1; simp [h1]
                    go_wp2
                    go_meet
                    exact ⟨by rw [HB9.out], rfl⟩
                  · by_cases h2 : kd < 1
                    · have HB9 : Hid (telB1 rto kd key.toList.isEmpty = true) := by show _ = _; unfold telB1; simp [h2]
                      go_wp2
                      go_meet
                      exact ⟨by rw [HB9.out], rfl⟩
                    · by_cases h3 : 5 < kd
                      · have HB9 : Hid (telB1 rto kd key.toList.isEmpty = true) := by show _ = _; unfold telB1; simp [h3]
                        go_wp2
                        go_meet
                        exact ⟨by rw [HB9.out], rfl⟩
                      · have HB8 : Hid (telB1 rto kd key.toList.isEmpty = !key.toList.isEmpty) := by show _ = _; unfold telB1; rw [decide_eq_false h1, decide_eq_false h2, decide_eq_false h3]; rfl
                        cases hky : key.toList.isEmpty with
                        | false =>
                          have HB9 : Hid (telB1 rto kd key.toList.isEmpty = true) := by have := HB8.out; rw [this, hky]; rfl
                          go_wp2
                          go_meet
                          exact ⟨by first | (rw [HB9.out, decide_eq_false (show ¬ (i : Int) < 0 by omega)]; done) | (rw [HB9.out]; done) | (have := HB9.out; rw [hky] at this; rw [this]), rfl⟩
                        | true =>
                          have HB9 : Hid (telB1 rto kd key.toList.isEmpty = false) := by have := HB8.out; rw [this, hky]; rfl
                          go_wp2
                          go_meet
                          exact ⟨by first | (rw [HB9.out, decide_eq_false (show ¬ (i : Int) < 0 by omega)]; done) | (rw [HB9.out]; done) | (have := HB9.out; rw [hky] at this; rw [this]), rfl⟩
              case rest =>
                obtain ⟨rfl, rfl⟩ := hcut
                cases htb : telB1 rto kd key.toList.isEmpty with
                | true =>
                  as_aux_lemma =>
                    have HS : Hid (stp cs k ⟨true, zi, kd, key, ⟨.slice pb nb cb, xs⟩⟩ = none) := by show _ = _; rw [HSt.out, HMh.out]; simp [htb]
                    clear HSt HMh htb
                    go_wp2
                    go_ret2
                    have e1 : R = none := by rw [HRN.out, HS.out]; rfl
                    subst e1
                    exact ⟨_, rfl, HKw.out, fun cs' h => (by cases h)⟩
                | false =>
                  have HTb : Hid (telB1 rto kd key.toList.isEmpty = false) := htb
                  clear htb
                  go_upto_region 21 with fail
                  go_cut [139] (fun v wz => v = .bool (telB2 kd ck nb) ∧ u1 = wz)
                  case first =>
                    as_aux_lemma =>
                      by_cases k2 : kd = 2
                      · subst k2
                        by_cases q1 : ck = 1
                        · subst q1
                          have HB9 : Hid (telB2 2 1 nb = decide ((0 : Int) < (nb : Int))) := by show _ = _; unfold telB2; simp
                          by_cases h5 : (0 : Int) < (nb : Int)
                          · rw [decide_eq_true h5] at HB9
                            go_wp2
                            go_meet
                            exact ⟨by rw [HB9.out], rfl⟩
                          · rw [decide_eq_false h5] at HB9
                            go_wp2
                            go_meet
                            exact ⟨by rw [HB9.out], rfl⟩
                        · have q1n : (ck != 1) = true := by simpa using q1
                          have HB9 : Hid (telB2 2 ck nb = true) := by show _ = _; unfold telB2; simp [q1]
                          go_wp2
                          go_meet
                          exact ⟨by rw [HB9.out], rfl⟩
                      · have k2' : (kd == 2) = false := by simpa using k2
                        by_cases k3 : kd = 3
                        · subst k3
                          by_cases q1 : ck = 1
                          · subst q1
                            have HB9 : Hid (telB2 3 1 nb = true) := by show _ = _; unfold telB2; simp
                            go_wp2
                            go_meet
                            exact ⟨by rw [HB9.out], rfl⟩
                          · have q1n : (ck == 1) = false := by simpa using q1
                            have HB9 : Hid (telB2 3 ck nb = decide ((0 : Int) < (nb : Int))) := by show _ = _; unfold telB2; simp [q1]
                            by_cases h5 : (0 : Int) < (nb : Int)
                            · rw [decide_eq_true h5] at HB9
                              go_wp2
                              go_meet
                              exact ⟨by rw [HB9.out], rfl⟩
                            · rw [decide_eq_false h5] at HB9
                              go_wp2
                              go_meet
                              exact ⟨by rw [HB9.out], rfl⟩
                        · have k3' : (kd == 3) = false := by simpa using k3
                          by_cases h5 : (0 : Int) < (nb : Int)
                          · have h5n : 0 < nb := by omega
                            by_cases k1 : kd = 1
                            · subst k1
                              by_cases q2' : ck = 2
                              · subst q2'
                                have HB9 : Hid (telB2 1 2 nb = false) := by show _ = _; unfold telB2; simp
                                go_wp2
                                go_meet
                                exact ⟨by rw [HB9.out], rfl⟩
                              · have q2n : (ck != 2) = true := by simpa using q2'
                                have HB9 : Hid (telB2 1 ck nb = true) := by show _ = _; unfold telB2; simp [q2', h5n]
                                go_wp2
                                go_meet
                                exact ⟨by rw [HB9.out], rfl⟩
                            · have k1n : (kd != 1) = true := by simpa using k1
                              have HB9 : Hid (telB2 kd ck nb = true) := by show _ = _; unfold telB2; simp [k1, h5n]
                              go_wp2
                              go_meet
                              exact ⟨by rw [HB9.out], rfl⟩
                          · have h5n : ¬ 0 < nb := by omega
                            have HB9 : Hid (telB2 kd ck nb = false) := by show _ = _; unfold telB2; rw [k2', k3', decide_eq_false h5n]; rfl
                            go_wp2
                            go_meet
                            exact ⟨by rw [HB9.out], rfl⟩
                  case rest =>
                    obtain ⟨rfl, rfl⟩ := hcut
                    cases hub : telB2 kd ck nb with
                    | true =>
                      as_aux_lemma =>
                        have HS : Hid (stp cs k ⟨true, zi, kd, key, ⟨.slice pb nb cb, xs⟩⟩ = none) := by show _ = _; rw [HSt.out, HMh.out]; simp [HTb.out, hub]
                        clear HSt HMh hub
                        go_wp2
                        go_ret2
                        have e1 : R = none := by rw [HRN.out, HS.out]; rfl
                        subst e1
                        exact ⟨_, rfl, HKw.out, fun cs' h => (by cases h)⟩
                    | false =>
                      as_aux_lemma =>
                        have HM : Hid (mayHearP ci ⟨true, zi, kd, key, ⟨.slice pb nb cb, xs⟩⟩ = true) := by show _ = _; rw [HMh.out]; simp [HTb.out, hub]
                        have HS : Hid (stp cs k ⟨true, zi, kd, key, ⟨.slice pb nb cb, xs⟩⟩ = some (cs.set i (hearP ci ⟨true, zi, kd, key, ⟨.slice pb nb cb, xs⟩⟩ k))) := by show _ = _; rw [HSt.out, HM.out]; rfl
                        clear HSt HMh hub
                        go_wp2_with fail
                        have kd9 : Kp (fun _ => False) u1 u1.drew := (Kp.refl _ _).drew
                        obtain ⟨m1, m2, m3, m4, m5, m6, m7, m8, m9, m10, m11⟩ := rc_mem (HAu.out.keep kd9) HNn.out HRi.out ⟨kd9.cellv c2' id, kd9.cellv c4 id⟩ HGx.out.1 HEK.out (show k ≤ 1000 by have := HK9.out; omega)
                        refine rc_region ⟨by kernel_rfl, by kernel_rfl, by kernel_rfl, by kernel_rfl, by kernel_rfl, by kernel_rfl, by kernel_rfl, by kernel_rfl, by kernel_rfl, by kernel_rfl, by kernel_rfl, by kernel_rfl, by kernel_rfl, by kernel_rfl, by kernel_rfl, by kernel_rfl, by kernel_rfl, by kernel_rfl, by kernel_rfl, by kernel_rfl, by kernel_rfl, by kernel_rfl, by kernel_rfl, by kernel_rfl, by kernel_rfl, by kernel_rfl, by kernel_rfl, by kernel_rfl, by kernel_rfl⟩ bx g j ca i hi9 _ (k : Int) pb nb cb (fun d _ _ _ _ h => by cases d <;> exact h) (by rfl) (by rfl) (by rfl) (by rfl) (by rfl) ⟨kd9.cellv c2' id, kd9.cellv c4 id⟩ m1 m2 m3 _ _ _ m4 m5 m6 m7 m8 m9 ?_
                        have HR9 : Hid (Rx _ _ _ _) := m10
                        have HK19 : Hid (Kp _ _ _) := m11
                        clear m1 m2 m3 m4 m5 m6 m7 m8 m9 m10 m11 c0 c1 c2' c3 c4 d1 d2
                        simp only [Act.put, List.setIfInBounds_toArray, List.set_cons_succ, List.set_cons_zero]
                        obtain ⟨u9, hu9⟩ : ∃ u, u = (((u1.drew.setCell ⟨g, i * 7 + 1, none⟩ (.int .i64 (k : Int))).setCell ⟨g, i * 7 + 3, none⟩ (.int .i64 kd)).setCell ⟨g, i * 7 + 6, none⟩ (.slice pb nb cb)) := ⟨_, rfl⟩
                        rw [← hu9] at HR9 HK19 ⊢
                        clear hu9
                        go_wp2
                        go_roundg (L - (k + 1))
                        case rel =>
                          refine ⟨k + 1, _, _, cs.set i (hearP ci ⟨true, zi, kd, key, ⟨.slice pb nb cb, xs⟩⟩ k), rs.set i (rhear ri ⟨true, zi, kd, key, ⟨.slice pb nb cb, xs⟩⟩ k), by omega, rfl, by first | rw [HK1'.out] | rfl | go_num, rfl, rfl, HR9.out, ?_, HB.out, ⟨HQ.out.1.set i (HRl.out.hear _ k HM.out), HQ.out.2.1.set i HCi.out (hearP_e _ _ _), by have := HQ.out.2.2; rw [List.length_set]; omega⟩, by show _ = _; rw [HRN.out, HS.out]; rfl⟩
                          show World.ownsRow _ _ _ _ _ _ _
                          have hmp : (rs.set i (rhear ri ⟨true, zi, kd, key, ⟨.slice pb nb cb, xs⟩⟩ k)).map (fun r => encI r.id) = rs.map (fun r => encI r.id) := by
                            rw [List.map_set]
                            have hil := (List.getElem?_eq_some_iff.1 HRi.out).1
                            have h1 : encI (rhear ri ⟨true, zi, kd, key, ⟨.slice pb nb cb, xs⟩⟩ k).id = (rs.map (fun r => encI r.id))[i]'(by simpa using hil) := by
                              rw [List.getElem_map]
                              have : rs[i] = ri := by have := HRi.out; rw [List.getElem?_eq_getElem hil] at this; exact Option.some.inj this
                              rw [this]; rfl
                            rw [h1, List.set_getElem_self]
                          rw [List.length_set, hmp]
                          exact ownsRow_keep (ownsRow_keep (ownsRow_keep HI.out HKu.out (fun _ _ => id)) kd9 (fun _ _ => id)) HK19.out (fun b hb e => HGx.out.2 (by rw [← e]; exact hb))
                        case measure => omega
    · go_wp2
      go_ret2
      have e1 : R = some cs := by
        rw [HRR.out, List.drop_of_length_le (by have := HL.out; omega)]; rfl
      refine ⟨a1, ?_, HA.out.k, fun cs' h => ?_⟩
      · rw [e1]; rfl
      · rw [e1] at h
        cases h
        exact ⟨rs, HA.out, HQ.out.1, by have := HQ.out; omega⟩
end Go.Proofs.Ytbbgplnenbkfeaa
