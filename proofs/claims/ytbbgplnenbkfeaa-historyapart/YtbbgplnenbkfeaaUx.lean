/- HistoryOpen (laid by scripts/mkux.py). -/
import Derived.Test.YtbbgplnenbkfeaaUq
import Derived.Test.YtbbgplnenbkfeaaUv
import Derived.Test.YtbbgplnenbkfeaaUw
namespace Go.Proofs.Ytbbgplnenbkfeaa
set_option linter.unusedVariables false
set_option linter.unusedSimpArgs false
open Go.RowKit Go.Deep Go.Maps

theorem szAk : (Try.prog.info? 38).map (·.size) = some 4 := by kernel_rfl
theorem dsAk : ∃ d, Try.prog.underlying 38 = some d ∧ d.isRow = true := ⟨_, Try.underlying38, rfl⟩
def ak0 : Ak := ⟨0, 0, ⟨#[]⟩, by0⟩
theorem Ak.ok.keep {w w' : World} {x : Ak} (h : x.ok w) (k : Kp (fun _ => False) w w') : x.ok w' := ⟨h.b.keep k, h.k, h.s⟩
theorem ak_one (e : Ak) (h : e.b.v.oneCell' = true) : (acell e).toArray.all (·.oneCell') = true := all_oneCell_toArray (fun x hx => by
  simp only [List.mem_cons, List.not_mem_nil, or_false] at hx
  rcases hx with rfl | rfl | rfl | rfl <;> first | rfl | exact h)
theorem fl_a {w : World} {Z : Nat → Prop} {p : Option Addr} {l : List Ak} (h : Fl w Z p (aflat l)) {k : Nat} (hk : k < l.length) : ∃ b o, p = some ⟨b, o, none⟩ ∧ w.rangeAt b (o + k * 4) (acell l[k]) := by
  have hg : l[k]? = some l[k] := List.getElem?_eq_getElem hk
  obtain ⟨bb, off, rfl, _, _⟩ := h (k * 4 + 0) (.int .i64 l[k].id) (aflat_get l k 0 l[k] _ hg rfl)
  refine ⟨bb, off, rfl, fun j u hj => ?_⟩
  obtain ⟨b', o', e, _, hc⟩ := h (k * 4 + j) u (aflat_get l k j l[k] u hg hj)
  cases e
  rwa [Nat.add_assoc]
/-- events of one's own -/
structure Re (w0 v : World) (a : Value) (es : List Ev) : Prop where
  o : v.ownsRow w0.heap.size 29 5 a es.length (eflat es)
  k : Kp (fun _ => False) w0 v
  c : ∀ y ∈ es, y.ok w0
theorem Re.keep {w0 v v' : World} {a : Value} {es : List Ev} (h : Re w0 v a es) (k : Kp (fun _ => False) v v') : Re w0 v' a es :=
  ⟨ownsRow_keep h.o k (fun _ _ => id), h.k.trans k (fun _ _ e => e), h.c⟩
theorem Re.nil (w0 : World) : Re w0 w0 (.slice none 0 0) [] := ⟨World.ownsRow_nil _ _ _ _, Kp.refl _ _, fun y hy => (by cases hy)⟩
set_option maxRecDepth 100000 in
theorem wpList_app_e {ops : Array Oper} {rest : List Oper} {op : Oper} {a : Act} {Q : Exit → Act → World → Prop} {w0 v : World} {a' : Value} {es : List Ev} (h : Re w0 v a' es) (e : Ev) (he : e.ok w0) (hz : es.length ≤ 900)
    (hgd : op.guard = none) (o1 o2 : Operand) (ho : op.op = .call { callee := .builtin .append, args := #[o1, o2], argTypes := #[22, 22] }) (h1 : a.eval o1 = a') (z4 : Nat) (hz4 : v.heap.size = z4) (h2 : a.eval o2 = .slice (some ⟨z4, 0, none⟩) 1 1)
    (hK : ∀ q c w3, Re w0 w3 (.slice q (es.length + 1) c) (es ++ [e]) → Kp (fun b => a'.ownBlock = some b) v w3 → wpList Try.prog ops Q rest (a.put op.dst (.slice q (es.length + 1) c)) w3) :
    wpList Try.prog ops Q (op :: rest) a (v.alloc (.cells (ecell e).toArray 29)) := by
  have ka : Kp (fun _ => False) v (v.alloc (.cells (ecell e).toArray 29)) := (Kp.refl _ _).alloc _
  have hr := h.keep ka
  have hlv := Lv.new v (ecell e).toArray 29
  have hs0 := h.k.size
  have z1 : (v.alloc (.cells (ecell e).toArray 29)).heap.size = v.heap.size + 1 := by simp
  refine wpList_app_es _ hgd o1 o2 ho w0.heap.size a' es.length (eflat es) h1 hr.o _ 1 (ecell e) (by rw [← hz4] at h2; exact h2) (Src.ofSlice _ Try.underlying22 ⟨v.heap.size, 0, none⟩ 1 1 (ecell e) rfl (fun j u hj => by rw [Addr.add_mid, Nat.zero_add]; exact hlv.cell hj) he.one) (by omega) (by omega) ?_
  intro a2 w3 hown hg
  have k3 : Kp (fun b => a'.ownBlock = some b) (v.alloc (.cells (ecell e).toArray 29)) w3 := by
    rcases hg with ⟨h, _⟩ | h
    · exact grownBy_kp h
    · exact (grownBy_kp h).mono (fun b _ e => by cases e)
  have hR : Re w0 w3 a2 (es ++ [e]) := by
    refine ⟨?_, hr.k.app hr.o k3, fun y hy => ?_⟩
    · rw [List.length_append, eflat_append]
      show World.ownsRow _ _ _ _ _ _ (eflat es ++ (ecell e ++ []))
      rw [List.append_nil]
      exact hown
    · rcases List.mem_append.1 hy with q | q
      · exact h.c y q
      · rw [List.mem_singleton] at q; subst q; exact he
  obtain ⟨q, c, e2, _⟩ := own_fl hR.o
  have e3 : a2 = .slice q (es.length + 1) c := by rw [e2, List.length_append]; rfl
  subst e3
  exact hK q c w3 hR ((ka.mono (fun _ _ e => e.elim)).trans k3 (fun _ _ e => e))
set_option maxRecDepth 100000 in
set_option maxHeartbeats 3200000 in
theorem bad_ok (w : World) : Calls Try.prog 17 #[] w fun r w' => r = .returned (.bool false) ∧ Kp (fun _ => False) w w' := by
  obtain ⟨w1, hw1⟩ : ∃ x, x = w.alloc (.cells #[.int .u8 1] 5) := ⟨_, rfl⟩
  obtain ⟨w2, hw2⟩ : ∃ x, x = w1.alloc (.cells #[.bool false, .int .i64 1, .int .i64 2, .string ⟨#[]⟩, .slice none 0 0, .bool true, .int .i64 1, .int .i64 1, .string ⟨#[]⟩, .slice (some ⟨w.heap.size, 0, none⟩) 1 1] 29) := ⟨_, rfl⟩
  have k1 : Kp (fun _ => False) w w1 := by rw [hw1]; exact (Kp.refl _ _).alloc _
  have k2 : Kp (fun _ => False) w1 w2 := by rw [hw2]; exact (Kp.refl _ _).alloc _
  have l1 : Lv w2 w.heap.size [.int .u8 1] := by
    have : Lv w1 w.heap.size [.int .u8 1] := by rw [hw1]; exact Lv.new w _ _
    exact this.keep k2 id
  have z1 : w1.heap.size = w.heap.size + 1 := by rw [hw1]; simp
  have l2 : Lv w2 (w.heap.size + 1) (eflat [⟨false, 1, 2, noKey, by0⟩, ⟨true, 1, 1, noKey, ⟨.slice (some ⟨w.heap.size, 0, none⟩) 1 1, [1]⟩⟩]) := by rw [← z1, hw2]; exact Lv.new w1 _ _
  have hb : (⟨.slice (some ⟨w.heap.size, 0, none⟩) 1 1, [1]⟩ : By).ok w2 := ⟨⟨_, 1, rfl, ⟨rfl, fun x hx => by simp at hx; subst hx; decide, fun j hj => ⟨w.heap.size, 0, rfl, by
    have hj1 : j < 1 := hj
    have : j = 0 := by omega
    subst this
    exact l1.cell (j := 0) rfl⟩⟩⟩, show 1 ≤ 140737488355328 by omega⟩
  have HC : Hid (Calls Try.prog 12 #[.slice (some ⟨w.heap.size + 1, 0, none⟩) 2 2] w2 fun r w' => r = .returned (.bool false) ∧ Kp (fun _ => False) w2 w') := by
    have := check_ok (fun _ => True) (some ⟨w.heap.size + 1, 0, none⟩) 2 [⟨false, 1, 2, noKey, by0⟩, ⟨true, 1, 1, noKey, ⟨.slice (some ⟨w.heap.size, 0, none⟩) 1 1, [1]⟩⟩] w2 (fun j u hj => ⟨_, 0, rfl, trivial, by rw [Nat.zero_add]; exact l2.cell hj⟩) (fun e he => by
      simp only [List.mem_cons, List.not_mem_nil, or_false] at he
      rcases he with rfl | rfl
      · exact ⟨by0_ok _, by dsimp only; omega, Nat.zero_le _⟩
      · exact ⟨hb, by dsimp only; omega, Nat.zero_le _⟩) (show 2 ≤ 900 by omega)
    rw [chk_bad] at this
    exact this
  have HK : Hid (Kp (fun _ => False) w w2) := k1.trans k2 (fun _ _ e => e)
  rw [hw1] at hw2
  clear k1 k2 l1 l2 z1 hb hw1
  go_enter Try.func17, Try.ntmps17
  go_wp2_with fail
  rw [← hw2]
  refine HC.out.mono ?_
  rintro e9 w9 ⟨rfl, k9⟩
  clear HC
  go_wp2
  go_ret
  exact ⟨rfl, HK.out.trans k9 (fun _ _ e => e)⟩

theorem kd3 (z : Int) : wrap64 (1 + wrap64 ((IntKind.u64.wrap z).tmod 3)) = 1 ∨ wrap64 (1 + wrap64 ((IntKind.u64.wrap z).tmod 3)) = 2 ∨ wrap64 (1 + wrap64 ((IntKind.u64.wrap z).tmod 3)) = 3 := by
  have h : IntKind.u64.wrap z = z % 18446744073709551616 := by simp [IntKind.wrap, IntKind.bits, IntKind.signed]
  rw [h]
  have h0 : 0 ≤ z % 18446744073709551616 := Int.emod_nonneg _ (by omega)
  rw [Int.tmod_eq_emod_of_nonneg h0]
  unfold wrap64
  omega
theorem may_put (k : Nat) (kd : Int) (ky : ByteArray) (b : By) (h : kd = 1) : mayAskP ⟨false, (k : Int) + 1, kd, ky, b⟩ = true := by
  subst h
  show (if ((1 : Int) == 1) = true then decide (0 < (k : Int) + 1) else _) = true
  rw [if_pos (show ((1 : Int) == 1) = true by decide)]
  exact decide_eq_true (by omega)
theorem may_other (k : Nat) (kd : Int) (ky : ByteArray) (h : kd = 2 ∨ kd = 3) : mayAskP ⟨false, (k : Int) + 1, kd, ky, by0⟩ = true := by
  have h0 : decide (0 < (k : Int) + 1) = true := decide_eq_true (by omega)
  rcases h with rfl | rfl <;> simp [mayAskP, by0] <;> omega
theorem a45 (k : Nat) : wrap64 (4 + (k : Int).tmod 2) = 4 ∨ wrap64 (4 + (k : Int).tmod 2) = 5 := by
  rw [Int.tmod_eq_emod_of_nonneg (by omega)]
  unfold wrap64
  omega
theorem ak_sets {u : World} {b : Nat} {xs : List Value} (h : Lv u b xs) (hl : xs.length = 4) {zk : Int} {ky : ByteArray} {bv : Value} (h1 : xs[1]? = some (.int .i64 zk)) (h2 : xs[2]? = some (.string ky)) (h3 : xs[3]? = some bv) (kd : Int) :
    (u.setCell ⟨b, 1, none⟩ (.int .i64 kd)).cell? ⟨b, 1, none⟩ = some (.int .i64 kd) ∧ (u.setCell ⟨b, 1, none⟩ (.int .i64 kd)).cell? ⟨b, 2, none⟩ = some (.string ky) ∧ (u.setCell ⟨b, 1, none⟩ (.int .i64 kd)).cell? ⟨b, 3, none⟩ = some bv ∧ (u.setCell ⟨b, 1, none⟩ (.int .i64 kd)).frozen? ⟨b, 3, none⟩ = false ∧
    ((u.setCell ⟨b, 1, none⟩ (.int .i64 kd)).setCell ⟨b, 3, none⟩ (.slice none 0 0)).cell? ⟨b, 1, none⟩ = some (.int .i64 kd) ∧ ((u.setCell ⟨b, 1, none⟩ (.int .i64 kd)).setCell ⟨b, 3, none⟩ (.slice none 0 0)).cell? ⟨b, 2, none⟩ = some (.string ky) ∧ ((u.setCell ⟨b, 1, none⟩ (.int .i64 kd)).setCell ⟨b, 3, none⟩ (.slice none 0 0)).cell? ⟨b, 3, none⟩ = some (.slice none 0 0) ∧
    Kp (fun x => x = b) u (u.setCell ⟨b, 1, none⟩ (.int .i64 kd)) ∧ Kp (fun x => x = b) u ((u.setCell ⟨b, 1, none⟩ (.int .i64 kd)).setCell ⟨b, 3, none⟩ (.slice none 0 0)) := by
  match xs, hl, h1, h2, h3 with
  | [x0, x1, x2, x3], _, h1, h2, h3 =>
    simp at h1 h2 h3
    subst h1 h2 h3
    have l1 := h.set1 1 (.int .i64 kd) (by simp)
    have l3 := l1.set1 3 (.slice none 0 0) (by simp)
    exact ⟨l1.cell (j := 1) rfl, l1.cell (j := 2) rfl, l1.cell (j := 3) rfl, l1.fz (j := 3) (by simp), l3.cell (j := 1) rfl, l3.cell (j := 2) rfl, l3.cell (j := 3) rfl, (Kp.refl (fun x => x = b) u).setCell (fun _ => rfl) _, ((Kp.refl (fun x => x = b) u).setCell (fun _ => rfl) _).setCell (fun _ => rfl) _⟩

set_option maxRecDepth 100000 in
set_option maxHeartbeats 6400000 in
theorem historyOpen_walk (p : Option Addr) (n c : Nat) (l : List Ak) (says : Int) (w : World) (h : l.length = n ∧ Fl w (fun _ => True) p (aflat l) ∧ (∀ x ∈ l, x.ok w) ∧ (n : Int) ≤ 9223372036854775807 ∧ n ≤ c) (hs : (Lit.int .i64 says).wf = true) :
    Calls Try.prog 9 #[.slice p n c, .int .i64 says] w fun e w' => e = .returned (.bool true) ∧ Kp (fun _ => False) w w' := by
  have HL : Hid (l.length = n) := h.1
  have HF : Hid (Fl w (fun _ => True) p (aflat l)) := h.2.1
  have HO : Hid (∀ x ∈ l, x.ok w) := h.2.2.1
  have hn9 : (n : Int) ≤ 9223372036854775807 := h.2.2.2.1
  have HS := i64_of hs
  clear h hs
  go_enter Try.func9, Try.ntmps9
  go_wp2
  go_loopg [5, 10] n (fun gk jv iv wr => ∃ (k : Nat) (q : Option Addr) (cj m : Nat) (es : List Ev) (cs : List Hc), k ≤ n ∧ k ≤ 21 ∧ gk = n - k ∧ iv = .int .i64 k ∧ jv = .slice q m cj ∧ Hid (m = es.length) ∧ Hid (Re w wr (.slice q m cj) es) ∧ Hid (Opn es cs) ∧ Hid (cs.length = k ∧ es.length ≤ 2 * k))
  case atStart => exact ⟨0, none, 0, 0, [], [], Nat.zero_le _, by omega, rfl, rfl, rfl, rfl, Re.nil w, Opn.nil, ⟨rfl, Nat.le_refl _⟩⟩
  case round =>
    obtain ⟨k, q, cj, m, es, cs, hk, hk21, rfl, rfl, rfl, HM, HR, HOp, HKs⟩ := hrel
    by_cases hlt : (k : Int) < (n : Int)
    · have hk1 : k < l.length := by have := HL.out; omega
      obtain ⟨b1, o1, rfl, r1⟩ := fl_a (HF.out.keep HR.out.k (fun _ _ => id)) hk1
      obtain ⟨x, hx⟩ : ∃ x, x = l[k] := ⟨_, rfl⟩
      rw [← hx] at r1
      have hok : x.ok w := by rw [hx]; exact HO.out _ (List.getElem_mem hk1)
      have HOk : Hid (x.ok w) := hok
      have HR1 : Hid (wr.rangeAt b1 (o1 + k * 4) (acell x)) := r1
      have HO1 : Hid ((acell x).toArray.all (·.oneCell') = true) := ak_one x hok.b.one
      obtain ⟨d, hd1, hd2⟩ := dsAk
      obtain ⟨xs, hxs⟩ : ∃ xs, xs = acell x := ⟨_, rfl⟩
      have HXS : Hid (xs = acell x ∧ xs.length = 4) := ⟨hxs, by rw [hxs]; rfl⟩
      rw [← hxs] at HR1 HO1
      obtain ⟨zk, hzk⟩ : ∃ z, z = x.kind := ⟨_, rfl⟩
      obtain ⟨kd, hkd9⟩ : ∃ kd, kd = wrap64 (1 + wrap64 ((IntKind.u64.wrap zk).tmod 3)) := ⟨_, rfl⟩
      have hkd : wrap64 (1 + wrap64 ((IntKind.u64.wrap zk).tmod 3)) = kd := hkd9.symm
      have HKD : Hid (kd = 1 ∨ kd = 2 ∨ kd = 3) := by rw [hkd9]; exact kd3 zk
      obtain ⟨⟨pb, cb, hbv, hrb⟩, hbn⟩ := hok.b
      obtain ⟨nb, hnb⟩ : ∃ nb, nb = x.b.xs.length := ⟨_, rfl⟩
      rw [← hnb] at hbv
      obtain ⟨ky, hky⟩ : ∃ z, z = x.key := ⟨_, rfl⟩
      have HX4 : Hid (xs[1]? = some (.int .i64 zk) ∧ xs[2]? = some (.string ky) ∧ xs[3]? = some (.slice pb nb cb)) := ⟨by rw [hxs, hzk]; rfl, by rw [hxs, hky]; rfl, by rw [hxs, ← hbv]; rfl⟩
      have HKy : Hid (ky = x.key ∧ x.b.v = .slice pb nb cb) := ⟨hky, hbv⟩
      have hmod : (k : Int).tmod 32 = (k : Int) := Int.tmod_eq_of_lt (by omega) (by omega)
      have HA4 : Hid (4 + (k : Int) % 2 = 4 ∨ 4 + (k : Int) % 2 = 5) := by show _ ∨ _; omega
      have HK1 : Hid (wrap64 ((k : Int) + 1) = ((k + 1 : Nat) : Int)) := wrapK (by omega)
      have hM := HM.out
      clear r1 hx hk1 hok hxs hkd9 hzk hky hbv hrb hbn hnb hM
      by_cases h20 : k ≤ 20
      · by_cases hk1 : kd = 1
        · have hk1b : (kd != 1) = false := by simpa using hk1
          have HK1d : Hid (kd = 1) := hk1
          clear hk1
          have HEo : Hid (Ev.ok w ⟨false, (k : Int) + 1, kd, ky, ⟨.slice pb nb cb, x.b.xs⟩⟩) := ⟨(show By.ok w ⟨.slice pb nb cb, x.b.xs⟩ from by rw [← HKy.out.2]; exact HOk.out.b), (by dsimp only; omega), (by show ky.size ≤ maxLen; rw [HKy.out.1]; exact HOk.out.s)⟩
          have HE2 : Hid (Ev.ok w ⟨true, (k : Int) + 1, 4 + (k : Int) % 2, noKey, by0⟩) := ⟨by0_ok w, (by dsimp only; omega), Nat.zero_le _⟩
          have HMay : Hid (mayAskP ⟨false, (k : Int) + 1, kd, ky, ⟨.slice pb nb cb, x.b.xs⟩⟩ = true) := may_put k kd ky _ HK1d.out
          go_wp2_with (first
            | (refine wpList_load_mid rfl 38 _ rfl b1 (o1 + k * 4) rfl xs d HR1.out hd1 hd2 (by rw [szAk, HXS.out.2]) ?_)
            | (refine wpList_store_all rfl 38 _ _ rfl 4 wr.heap.size (acell ak0) xs rfl rfl (by exact Lv.new wr _ _) szAk rfl HXS.out.2 HO1.out ?_; intro u1 hl1 k1; have HKu : Hid (Kp (fun _ => False) wr u1) := ((Kp.refl (fun _ => False) wr).alloc _).trans k1 (fun b hb e => by omega); have HLu : Hid (Lv u1 wr.heap.size xs) := hl1; have c1 : u1.cell? ⟨wr.heap.size, 1, none⟩ = some (.int .i64 zk) := hl1.cell (j := 1) HX4.out.1; have f1 := hl1.fz (j := 1) (by rw [HXS.out.2]; decide); obtain ⟨e1, e2, e3, f3, g1, g2, g3, HV2, HV3⟩ := ak_sets hl1 HXS.out.2 HX4.out.1 HX4.out.2.1 HX4.out.2.2 kd; clear hl1 k1)
            | (at_builtin; refine wpList_app_e (w0 := w) (v := (u1.setCell ⟨wr.heap.size, 1, none⟩ (.int .i64 kd))) (es := es) (HR.out.keep (HKu.out.trans HV2 (fun b hb e => by omega))) ⟨false, (k : Int) + 1, kd, ky, ⟨.slice pb nb cb, x.b.xs⟩⟩ HEo.out (by have := HKs.out; omega) rfl _ _ rfl rfl u1.heap.size (by simp) rfl ?_; intro q2 cj2 w3 hr3 k3; have HR3 : Hid (Re w w3 (.slice q2 (es.length + 1) cj2) (es ++ [⟨false, (k : Int) + 1, kd, ky, ⟨.slice pb nb cb, x.b.xs⟩⟩])) := hr3; clear hr3 k3; have HOp3 : Hid (Opn (es ++ [⟨false, (k : Int) + 1, kd, ky, ⟨.slice pb nb cb, x.b.xs⟩⟩]) (cs ++ [newC ⟨false, (k : Int) + 1, kd, ky, ⟨.slice pb nb cb, x.b.xs⟩⟩ es.length])) := HOp.out.call ⟨false, (k : Int) + 1, kd, ky, ⟨.slice pb nb cb, x.b.xs⟩⟩ rfl (by show (k : Int) + 1 = _; rw [HKs.out.1]) HMay.out)
            | (at_builtin; refine wpList_app_e (w0 := w) (v := w3) (es := es ++ [⟨false, (k : Int) + 1, kd, ky, ⟨.slice pb nb cb, x.b.xs⟩⟩]) HR3.out ⟨true, (k : Int) + 1, 4 + (k : Int) % 2, noKey, by0⟩ HE2.out (by rw [List.length_append]; have := HKs.out; simp; omega) rfl _ _ rfl rfl w3.heap.size rfl rfl ?_; intro q4 cj4 w4 hr4 k4; have HR4 : Hid (Re w w4 _ ((es ++ [⟨false, (k : Int) + 1, kd, ky, ⟨.slice pb nb cb, x.b.xs⟩⟩]) ++ [⟨true, (k : Int) + 1, 4 + (k : Int) % 2, noKey, by0⟩])) := hr4; clear hr4 k4; have HOp4 : Hid (Opn ((es ++ [⟨false, (k : Int) + 1, kd, ky, ⟨.slice pb nb cb, x.b.xs⟩⟩]) ++ [⟨true, (k : Int) + 1, 4 + (k : Int) % 2, noKey, by0⟩]) (cs ++ [{ newC ⟨false, (k : Int) + 1, kd, ky, ⟨.slice pb nb cb, x.b.xs⟩⟩ es.length with told := true }])) := HOp3.out.hear rfl ⟨true, (k : Int) + 1, 4 + (k : Int) % 2, noKey, by0⟩ rfl (by show (k : Int) + 1 = _; rw [HKs.out.1]) HA4.out noKey_empty rfl))
          · go_roundg (n - (k + 1))
            case rel =>
              have e9 : (es ++ [(⟨false, (k : Int) + 1, kd, ky, ⟨.slice pb nb cb, x.b.xs⟩⟩ : Ev)]).length = es.length + 1 := by simp
              have hr := HR4.out
              rw [e9] at hr
              exact ⟨k + 1, q4, cj4, es.length + 1 + 1, _, _, by omega, by omega, rfl, by first | rw [HK1.out] | rfl | go_num, rfl, by show _ = _; simp, hr, HOp4, ⟨by have := HKs.out; simp; omega, by have := HKs.out; simp; omega⟩⟩
            case measure => omega
          · go_roundg (n - (k + 1))
            case rel => exact ⟨k + 1, q2, cj2, es.length + 1, _, _, by omega, by omega, rfl, by first | rw [HK1.out] | rfl | go_num, rfl, by show _ = _; simp, HR3, HOp3, ⟨by have := HKs.out; simp; omega, by have := HKs.out; simp; omega⟩⟩
            case measure => omega

        · have hk1b : (kd != 1) = true := by simpa using hk1
          have HK1d : Hid (¬ kd = 1) := hk1
          clear hk1
          have HEo : Hid (Ev.ok w ⟨false, (k : Int) + 1, kd, ky, by0⟩) := ⟨by0_ok w, (by dsimp only; omega), (by show ky.size ≤ maxLen; rw [HKy.out.1]; exact HOk.out.s)⟩
          have HE2 : Hid (Ev.ok w ⟨true, (k : Int) + 1, 4 + (k : Int) % 2, noKey, by0⟩) := ⟨by0_ok w, (by dsimp only; omega), Nat.zero_le _⟩
          have HMay : Hid (mayAskP ⟨false, (k : Int) + 1, kd, ky, by0⟩ = true) := may_other k kd ky (HKD.out.resolve_left HK1d.out)
          go_wp2_with (first
            | (refine wpList_load_mid rfl 38 _ rfl b1 (o1 + k * 4) rfl xs d HR1.out hd1 hd2 (by rw [szAk, HXS.out.2]) ?_)
            | (refine wpList_store_all rfl 38 _ _ rfl 4 wr.heap.size (acell ak0) xs rfl rfl (by exact Lv.new wr _ _) szAk rfl HXS.out.2 HO1.out ?_; intro u1 hl1 k1; have HKu : Hid (Kp (fun _ => False) wr u1) := ((Kp.refl (fun _ => False) wr).alloc _).trans k1 (fun b hb e => by omega); have HLu : Hid (Lv u1 wr.heap.size xs) := hl1; have c1 : u1.cell? ⟨wr.heap.size, 1, none⟩ = some (.int .i64 zk) := hl1.cell (j := 1) HX4.out.1; have f1 := hl1.fz (j := 1) (by rw [HXS.out.2]; decide); obtain ⟨e1, e2, e3, f3, g1, g2, g3, HV2, HV3⟩ := ak_sets hl1 HXS.out.2 HX4.out.1 HX4.out.2.1 HX4.out.2.2 kd; clear hl1 k1)
            | (at_builtin; refine wpList_app_e (w0 := w) (v := ((u1.setCell ⟨wr.heap.size, 1, none⟩ (.int .i64 kd)).setCell ⟨wr.heap.size, 3, none⟩ (.slice none 0 0))) (es := es) (HR.out.keep (HKu.out.trans HV3 (fun b hb e => by omega))) ⟨false, (k : Int) + 1, kd, ky, by0⟩ HEo.out (by have := HKs.out; omega) rfl _ _ rfl rfl u1.heap.size (by simp) rfl ?_; intro q2 cj2 w3 hr3 k3; have HR3 : Hid (Re w w3 (.slice q2 (es.length + 1) cj2) (es ++ [⟨false, (k : Int) + 1, kd, ky, by0⟩])) := hr3; clear hr3 k3; have HOp3 : Hid (Opn (es ++ [⟨false, (k : Int) + 1, kd, ky, by0⟩]) (cs ++ [newC ⟨false, (k : Int) + 1, kd, ky, by0⟩ es.length])) := HOp.out.call ⟨false, (k : Int) + 1, kd, ky, by0⟩ rfl (by show (k : Int) + 1 = _; rw [HKs.out.1]) HMay.out)
            | (at_builtin; refine wpList_app_e (w0 := w) (v := w3) (es := es ++ [⟨false, (k : Int) + 1, kd, ky, by0⟩]) HR3.out ⟨true, (k : Int) + 1, 4 + (k : Int) % 2, noKey, by0⟩ HE2.out (by rw [List.length_append]; have := HKs.out; simp; omega) rfl _ _ rfl rfl w3.heap.size rfl rfl ?_; intro q4 cj4 w4 hr4 k4; have HR4 : Hid (Re w w4 _ ((es ++ [⟨false, (k : Int) + 1, kd, ky, by0⟩]) ++ [⟨true, (k : Int) + 1, 4 + (k : Int) % 2, noKey, by0⟩])) := hr4; clear hr4 k4; have HOp4 : Hid (Opn ((es ++ [⟨false, (k : Int) + 1, kd, ky, by0⟩]) ++ [⟨true, (k : Int) + 1, 4 + (k : Int) % 2, noKey, by0⟩]) (cs ++ [{ newC ⟨false, (k : Int) + 1, kd, ky, by0⟩ es.length with told := true }])) := HOp3.out.hear rfl ⟨true, (k : Int) + 1, 4 + (k : Int) % 2, noKey, by0⟩ rfl (by show (k : Int) + 1 = _; rw [HKs.out.1]) HA4.out noKey_empty rfl))
          · go_roundg (n - (k + 1))
            case rel =>
              have e9 : (es ++ [(⟨false, (k : Int) + 1, kd, ky, by0⟩ : Ev)]).length = es.length + 1 := by simp
              have hr := HR4.out
              rw [e9] at hr
              exact ⟨k + 1, q4, cj4, es.length + 1 + 1, _, _, by omega, by omega, rfl, by first | rw [HK1.out] | rfl | go_num, rfl, by show _ = _; simp, hr, HOp4, ⟨by have := HKs.out; simp; omega, by have := HKs.out; simp; omega⟩⟩
            case measure => omega
          · go_roundg (n - (k + 1))
            case rel => exact ⟨k + 1, q2, cj2, es.length + 1, _, _, by omega, by omega, rfl, by first | rw [HK1.out] | rfl | go_num, rfl, by show _ = _; simp, HR3, HOp3, ⟨by have := HKs.out; simp; omega, by have := HKs.out; simp; omega⟩⟩
            case measure => omega

      · obtain ⟨q9, c9, e9, hfl⟩ := own_fl HR.out.o
        rw [← HM.out] at e9
        cases e9
        have HMy : Hid (∀ u, Kp (fun _ => False) wr u → Calls Try.prog 10 #[.slice q m cj] u fun r w' => r = .returned (.bool true) ∧ Kp (fun _ => False) u w') := fun u ku => by
          have := may_ok _ q cj es u (hfl.keep ku (fun _ _ => id)) (fun e he => (HR.out.c e he).keep (HR.out.k.trans ku (fun _ _ e => e))) (by have := HKs.out; omega)
          rw [HOp.out.r, ← HM.out] at this
          exact this
        have HCk : Hid (∀ u, Kp (fun _ => False) wr u → Calls Try.prog 12 #[.slice q m cj] u fun r w' => r = .returned (.bool true) ∧ Kp (fun _ => False) u w') := fun u ku => by
          have := check_ok _ q cj es u (hfl.keep ku (fun _ _ => id)) (fun e he => (HR.out.c e he).keep (HR.out.k.trans ku (fun _ _ e => e))) (by have := HKs.out; omega)
          rw [HOp.out.right (by have := HKs.out; omega), ← HM.out] at this
          exact this
        clear hfl
        go_wp2_with (first | (refine wpList_load_mid rfl 38 _ rfl b1 (o1 + k * 4) rfl xs d HR1.out hd1 hd2 (by rw [szAk, HXS.out.2]) ?_) | (refine wpList_store_all rfl 38 _ _ rfl 4 wr.heap.size (acell ak0) xs rfl rfl (by exact Lv.new wr _ _) szAk rfl HXS.out.2 HO1.out ?_; intro u1 hl1 k1; have HKu : Hid (Kp (fun _ => False) wr u1) := ((Kp.refl (fun _ => False) wr).alloc _).trans k1 (fun b hb e => by omega); clear hl1 k1) | (go_at_call 10; refine (HMy.out _ HKu.out).mono ?_; rintro e8 w8 ⟨rfl, k8⟩; have HK8 : Hid (Kp (fun _ => False) wr w8) := (HKu.out).trans k8 (fun _ _ e => e); clear k8) | (go_at_call 12; refine (HCk.out _ HK8.out).mono ?_; rintro e7 w7 ⟨rfl, k7⟩; have HK7 : Hid (Kp (fun _ => False) wr w7) := HK8.out.trans k7 (fun _ _ e => e); clear k7) | (go_at_call 17; refine (bad_ok _).mono ?_; rintro e6 w6 ⟨rfl, k6⟩; have HK6 : Hid (Kp (fun _ => False) wr w6) := HK7.out.trans k6 (fun _ _ e => e); clear k6))
        go_ret
        exact ⟨rfl, HR.out.k.trans HK6.out (fun _ _ e => e)⟩
    · obtain ⟨q9, c9, e9, hfl⟩ := own_fl HR.out.o
      rw [← HM.out] at e9
      cases e9
      have HMy : Hid (∀ u, Kp (fun _ => False) wr u → Calls Try.prog 10 #[.slice q m cj] u fun r w' => r = .returned (.bool true) ∧ Kp (fun _ => False) u w') := fun u ku => by
        have := may_ok _ q cj es u (hfl.keep ku (fun _ _ => id)) (fun e he => (HR.out.c e he).keep (HR.out.k.trans ku (fun _ _ e => e))) (by have := HKs.out; omega)
        rw [HOp.out.r, ← HM.out] at this
        exact this
      have HCk : Hid (∀ u, Kp (fun _ => False) wr u → Calls Try.prog 12 #[.slice q m cj] u fun r w' => r = .returned (.bool true) ∧ Kp (fun _ => False) u w') := fun u ku => by
        have := check_ok _ q cj es u (hfl.keep ku (fun _ _ => id)) (fun e he => (HR.out.c e he).keep (HR.out.k.trans ku (fun _ _ e => e))) (by have := HKs.out; omega)
        rw [HOp.out.right (by have := HKs.out; omega), ← HM.out] at this
        exact this
      clear hfl
      go_wp2_with (first | (go_at_call 10; refine (HMy.out _ (Kp.refl (fun _ => False) wr)).mono ?_; rintro e8 w8 ⟨rfl, k8⟩; have HK8 : Hid (Kp (fun _ => False) wr w8) := ((Kp.refl (fun _ => False) wr)).trans k8 (fun _ _ e => e); clear k8) | (go_at_call 12; refine (HCk.out _ HK8.out).mono ?_; rintro e7 w7 ⟨rfl, k7⟩; have HK7 : Hid (Kp (fun _ => False) wr w7) := HK8.out.trans k7 (fun _ _ e => e); clear k7) | (go_at_call 17; refine (bad_ok _).mono ?_; rintro e6 w6 ⟨rfl, k6⟩; have HK6 : Hid (Kp (fun _ => False) wr w6) := HK7.out.trans k6 (fun _ _ e => e); clear k6))
      go_ret
      exact ⟨rfl, HR.out.k.trans HK6.out (fun _ _ e => e)⟩

end Go.Proofs.Ytbbgplnenbkfeaa
