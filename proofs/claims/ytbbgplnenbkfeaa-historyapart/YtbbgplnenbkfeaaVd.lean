/- served (laid by scripts/mkvd.py). -/
import Derived.Test.YtbbgplnenbkfeaaVc
namespace Go.Proofs.Ytbbgplnenbkfeaa
set_option linter.unusedVariables false
set_option linter.unusedSimpArgs false
open Go.RowKit Go.Deep Go.Maps

theorem Re.keep2 {S : Nat → Prop} {w0 v v' : World} {a : Value} {es : List Ev} (h : Re w0 v a es) (k : Kp S v v') (hS : ∀ b, a.ownBlock = some b → ¬ S b) (h0 : ∀ b, b < w0.heap.size → ¬ S b) : Re w0 v' a es :=
  ⟨ownsRow_keep h.o k hS, h.k.trans k (fun b hb e => h0 b hb e), h.c⟩
theorem sv_re {w0 v v' : World} {a : Value} {es : List Ev} {m1 m2 n : Nat} {st : List UInt8 → Int} {B : List UInt8 → By} (h : Re w0 v a es) (s : Sm w0 v m1 m2 n st B) (k : Kp (fun x => x = m1 ∨ x = m2) v v') : Re w0 v' a es := by
  obtain ⟨_, _, _, y1, _⟩ := s.a
  obtain ⟨_, _, _, y2, _⟩ := s.b
  have hn := s.ne
  refine h.keep2 k (fun b hb e => ?_) (fun b hb e => by omega)
  rcases e with e | e
  · subst e; exact row_ne_map h.o y1 hb
  · subst e; exact row_ne_map h.o y2 hb
theorem sv_keep3 {w0 v w4 : World} {a : Value} {es : List Ev} {m1 m2 n : Nat} {st : List UInt8 → Int} {B : List UInt8 → By} (s : Sm w0 v m1 m2 n st B) (h : Re w0 v a es) (k4 : Kp (fun b => a.ownBlock = some b) v w4) : Sm w0 w4 m1 m2 n st B := by
  obtain ⟨_, _, _, y1, _⟩ := s.a
  obtain ⟨_, _, _, y2, _⟩ := s.b
  exact s.keep k4 (row_ne_map h.o y1) (row_ne_map h.o y2)
theorem setI_xs (B : List UInt8 → By) (k : List UInt8) (b : By) : setI (fun s => (B s).xs) k b.xs = fun s => (setI B k b s).xs := by
  funext s
  unfold setI
  split <;> rfl
theorem ev_sets {u : World} {b : Nat} {i : Int} (h : Lv u b (ecell ⟨true, i, 1, noKey, by0⟩)) : u.cell? ⟨b, 2, none⟩ = some (.int .i64 1) ∧ u.frozen? ⟨b, 2, none⟩ = false ∧ (u.setCell ⟨b, 2, none⟩ (.int .i64 4)).cell? ⟨b, 4, none⟩ = some (.slice none 0 0) ∧ (u.setCell ⟨b, 2, none⟩ (.int .i64 4)).frozen? ⟨b, 4, none⟩ = false ∧ Lv ((u.setCell ⟨b, 2, none⟩ (.int .i64 4)).setCell ⟨b, 4, none⟩ (.slice none 0 0)) b (ecell ⟨true, i, 4, noKey, by0⟩) ∧ Kp (fun x => x = b) u ((u.setCell ⟨b, 2, none⟩ (.int .i64 4)).setCell ⟨b, 4, none⟩ (.slice none 0 0)) := by
  have l1 := h.set1 2 (.int .i64 4) (by simp)
  have l3 := l1.set1 4 (.slice none 0 0) (by simp)
  exact ⟨h.cell (j := 2) rfl, h.fz (j := 2) (by simp), l1.cell (j := 4) rfl, l1.fz (j := 4) (by simp), l3, ((Kp.refl (fun x => x = b) u).setCell (fun _ => rfl) _).setCell (fun _ => rfl) _⟩
theorem sv_own {w0 v : World} {q : Option Addr} {m cj : Nat} {es : List Ev} (h : Re w0 v (.slice q m cj) es) (hm : m = es.length) {b : Nat} (e : Value.ownBlock (.slice q m cj) = some v.heap.size) : False := by
  have := (ownBlock_lt h.o e).2
  omega
theorem sv_keep {w0 v u u2 w3 : World} {a : Value} {es : List Ev} {m1 m2 n : Nat} {st : List UInt8 → Int} {B : List UInt8 → By} (s : Sm w0 v m1 m2 n st B) (h : Re w0 v a es) (hm : True) (k1 : Kp (fun _ => False) v u) (k2 : Kp (fun x => x = v.heap.size) u u2) (k3 : Kp (fun b => a.ownBlock = some b) u2 w3) : Sm w0 w3 m1 m2 n st B := by
  have hl := s.lt
  obtain ⟨_, _, _, y1, _⟩ := s.a
  obtain ⟨_, _, _, y2, _⟩ := s.b
  exact ((s.keep k1 id id).keep k2 (fun e => by omega) (fun e => by omega)).keep k3 (row_ne_map h.o y1) (row_ne_map h.o y2)
theorem sv_keep2 {w0 w3 w4 : World} {a : Value} {es : List Ev} {m1 m2 n : Nat} {st : List UInt8 → Int} {B : List UInt8 → By} (s : Sm w0 w3 m1 m2 n st B) (h : Re w0 w3 a es) {o : Obj} (k4 : Kp (fun b => a.ownBlock = some b) (w3.alloc o) w4) : Sm w0 w4 m1 m2 n st B := by
  obtain ⟨_, _, _, y1, _⟩ := s.a
  obtain ⟨_, _, _, y2, _⟩ := s.b
  exact (s.keep ((Kp.refl (fun _ => False) w3).alloc o) id id).keep k4 (row_ne_map h.o y1) (row_ne_map h.o y2)

set_option maxRecDepth 100000 in
set_option maxHeartbeats 12800000 in
theorem served_ok (p : Option Addr) (n c : Nat) (l : List Ak) (lost : Int) (w : World) (h : l.length = n ∧ Fl w (fun _ => True) p (aflat l) ∧ (∀ x ∈ l, x.ok w) ∧ (n : Int) ≤ 9223372036854775807 ∧ n ≤ c) :
    Calls Try.prog 15 #[.slice p n c, .int .u64 lost] w fun e w' => ∃ q cj es, e = .returned (.slice q es.length cj) ∧ Re w w' (.slice q es.length cj) es ∧ es.length ≤ 60 ∧ ∃ cs st bs, Srv es cs st bs := by
  have HL : Hid (l.length = n) := h.1
  have HF : Hid (Fl w (fun _ => True) p (aflat l)) := h.2.1
  have HO : Hid (∀ x ∈ l, x.ok w) := h.2.2.1
  have hn9 : (n : Int) ≤ 9223372036854775807 := h.2.2.2.1
  clear h
  have hmm : ∀ (t : TypeId) (w : World), (Instr.makeMap t none).run Try.prog w = .ok (.map (some w.heap.size)) (w.alloc (.map #[] 0)) := fun _ _ => rfl
  go_enter Try.func15, Try.ntmps15
  go_wp2
  clear hmm
  obtain ⟨w1, hw1⟩ : ∃ x, x = w.alloc (.map #[] 0) := ⟨_, rfl⟩
  obtain ⟨w2, hw2⟩ : ∃ x, x = w1.alloc (.map #[] 0) := ⟨_, rfl⟩
  have z1 : w1.heap.size = w.heap.size + 1 := by rw [hw1]; simp
  have HSm0 : Hid (Sm w w2 w.heap.size (w.heap.size + 1) 0 (fun _ => 0) (fun _ => by0)) := by
    have k2 : Kp (fun _ => False) w1 w2 := by rw [hw2]; exact (Kp.refl _ _).alloc _
    have y1 : Yt w1 w.heap.size 0 0 (fun _ => none) := by rw [hw1]; exact Yt.made w
    have y2 : Yt w2 w1.heap.size 0 0 (fun _ => none) := by rw [hw2]; exact Yt.made w1
    rw [z1] at y2
    exact ⟨⟨0, 0, _, y1.keep k2 id, Nat.le_refl _, fun s => rfl⟩, ⟨0, 0, _, y2, Nat.le_refl _, fun s => rfl⟩, fun s => by0_ok w, by omega⟩
  have HK2 : Hid (Kp (fun _ => False) w w2) := by
    rw [hw2, hw1]; exact ((Kp.refl _ _).alloc _).alloc _
  rw [← hw1, ← hw2]
  obtain ⟨m1, hm1⟩ : ∃ m, m = w.heap.size := ⟨_, rfl⟩
  obtain ⟨m2, hm2⟩ : ∃ m, m = w.heap.size + 1 := ⟨_, rfl⟩
  rw [← hm2, ← hm1] at HSm0
  rw [← hm2, ← hm1]
  clear hw1 hw2 z1 hm1 hm2
  go_loopg [7, 16] n (fun gk jv iv wr => ∃ (k : Nat) (q : Option Addr) (cj m : Nat) (es : List Ev) (cs : List Hc) (st : List UInt8 → Int) (B : List UInt8 → By), k ≤ n ∧ k ≤ 26 ∧ gk = n - k ∧ iv = .int .i64 k ∧ jv = .slice q m cj ∧ Hid (m = es.length) ∧ Hid (Re w wr (.slice q m cj) es) ∧ Hid (Srv es cs st (fun s => (B s).xs)) ∧ Hid (Sm w wr m1 m2 (2 * k) st B) ∧ Hid (cs.length = k ∧ es.length ≤ 2 * k))
  case atStart => exact ⟨0, none, 0, 0, [], [], fun _ => 0, fun _ => by0, Nat.zero_le _, by omega, rfl, rfl, rfl, rfl, (Re.nil w).keep HK2.out, Srv.nil, HSm0.out, ⟨rfl, Nat.le_refl _⟩⟩
  case round =>
    obtain ⟨k, q, cj, m, es, cs, st, B, hk, hk26, rfl, rfl, rfl, HM, HR, HSv, HSm, HKs⟩ := hrel
    by_cases hlt : (k : Int) < (n : Int)
    · have hk1 : k < l.length := by have := HL.out; omega
      obtain ⟨b1, o1, rfl, r1⟩ := fl_a (HF.out.keep HR.out.k (fun _ _ => id)) hk1
      obtain ⟨x, hx⟩ : ∃ x, x = l[k] := ⟨_, rfl⟩
      rw [← hx] at r1
      have hok : x.ok w := by rw [hx]; exact HO.out _ (List.getElem_mem hk1)
      have HOk : Hid (x.ok w) := hok
      have HR1 : Hid (wr.rangeAt b1 (o1 + k * 4) (acell x)) := r1
      have HO1 : Hid ((acell x).toArray.all (·.oneCell') = true) := ak_one x hok.b.one
      obtain ⟨d, hd1, hd2⟩ := dsAk
      obtain ⟨xs, hxs⟩ : ∃ xs, xs = acell x := ⟨_, rfl⟩
      have HXS : Hid (xs = acell x ∧ xs.length = 4) := ⟨hxs, by rw [hxs]; rfl⟩
      rw [← hxs] at HR1 HO1
      obtain ⟨zk, hzk⟩ : ∃ z, z = x.kind := ⟨_, rfl⟩
      obtain ⟨kd, hkd9⟩ : ∃ kd, kd = wrap64 (1 + wrap64 ((IntKind.u64.wrap zk).tmod 3)) := ⟨_, rfl⟩
      have hkd : wrap64 (1 + wrap64 ((IntKind.u64.wrap zk).tmod 3)) = kd := hkd9.symm
      have HKD : Hid (kd = 1 ∨ kd = 2 ∨ kd = 3) := by rw [hkd9]; exact kd3 zk
      obtain ⟨⟨pb, cb, hbv, hrb⟩, hbn⟩ := hok.b
      obtain ⟨nb, hnb⟩ : ∃ nb, nb = x.b.xs.length := ⟨_, rfl⟩
      rw [← hnb] at hbv
      obtain ⟨ky, hky⟩ : ∃ z, z = x.key := ⟨_, rfl⟩
      have HX4 : Hid (xs[1]? = some (.int .i64 zk) ∧ xs[2]? = some (.string ky) ∧ xs[3]? = some (.slice pb nb cb)) := ⟨by rw [hxs, hzk]; rfl, by rw [hxs, hky]; rfl, by rw [hxs, ← hbv]; rfl⟩
      have HKy : Hid (ky.size ≤ maxLen) := by rw [hky]; exact hok.s
      have HBv : Hid (By.ok w ⟨.slice pb nb cb, x.b.xs⟩) := by have := hok.b; rw [← hbv]; exact this
      have hmod : (k : Int).tmod 32 = (k : Int) := Int.tmod_eq_of_lt (by omega) (by omega)
      have HK1 : Hid (wrap64 ((k : Int) + 1) = ((k + 1 : Nat) : Int)) := wrapK (by omega)
      have HID : Hid ((k : Int) + 1 = (cs.length : Int) + 1) := by show _ = _; rw [HKs.out.1]
      have HE9 : Hid (es.length ≤ 900) := by show _ ≤ _; have := HKs.out; omega
      clear r1 hx hk1 hok hxs hkd9 hzk hky hbv hrb hbn hnb
      by_cases h25 : k ≤ 25
      · by_cases hk1 : kd = 1
        · by_cases hz : st ky.data.toList = 0
          · have hk1b : (kd != 1) = false := by simpa using hk1
            have hk1c : (kd == 1) = true := by simpa using hk1
            have HKd : Hid (kd = 1) := hk1
            have HZ : Hid (st ky.data.toList = 0) := hz
            clear hk1 hz
            have HEo : Hid (Ev.ok w ⟨false, (k : Int) + 1, kd, ky, ⟨.slice pb nb cb, x.b.xs⟩⟩) := ⟨(show By.ok w ⟨.slice pb nb cb, x.b.xs⟩ from HBv.out), (by dsimp only; omega), HKy.out⟩
            have HMay : Hid (mayAskP ⟨false, (k : Int) + 1, kd, ky, ⟨.slice pb nb cb, x.b.xs⟩⟩ = true) := may_put k kd ky _ HKd.out
            have HA1 : Hid (Ev.ok w ⟨true, (k : Int) + 1, 1, noKey, by0⟩) := ⟨by0_ok w, (by dsimp only; omega), Nat.zero_le _⟩
            have HA4 : Hid (Ev.ok w ⟨true, (k : Int) + 1, 4, noKey, by0⟩) := ⟨by0_ok w, (by dsimp only; omega), Nat.zero_le _⟩
            go_wp2_with (first | (refine wpList_load_mid rfl 38 _ rfl b1 (o1 + k * 4) rfl xs d HR1.out hd1 hd2 (by rw [szAk, HXS.out.2]) ?_) | (refine wpList_store_all rfl 38 _ _ rfl 4 wr.heap.size (acell ak0) xs rfl rfl (by exact Lv.new wr _ _) szAk rfl HXS.out.2 HO1.out ?_; intro u1 hl1 k1; have HKu : Hid (Kp (fun _ => False) wr u1) := ((Kp.refl (fun _ => False) wr).alloc _).trans k1 (fun b hb e => by omega); have c1 : u1.cell? ⟨wr.heap.size, 1, none⟩ = some (.int .i64 zk) := hl1.cell (j := 1) HX4.out.1; have f1 := hl1.fz (j := 1) (by rw [HXS.out.2]; decide); obtain ⟨e1, e2, e3, f3, g1, g2, g3, HV2, HV3⟩ := ak_sets hl1 HXS.out.2 HX4.out.1 HX4.out.2.1 HX4.out.2.2 kd; clear hl1 k1) | (at_builtin; refine wpList_app_e (w0 := w) (v := (u1.setCell ⟨wr.heap.size, 1, none⟩ (.int .i64 kd))) (es := es) (HR.out.keep (HKu.out.trans HV2 (fun b hb e => by omega))) ⟨false, (k : Int) + 1, kd, ky, ⟨.slice pb nb cb, x.b.xs⟩⟩ HEo.out (by have := HE9.out; omega) rfl _ _ rfl rfl u1.heap.size (by simp) rfl ?_; intro q2 cj2 w3 hr3 k3; have HR3 : Hid (Re w w3 (.slice q2 (es.length + 1) cj2) (es ++ [⟨false, (k : Int) + 1, kd, ky, ⟨.slice pb nb cb, x.b.xs⟩⟩])) := hr3; have z1 : (w3.alloc (.cells #[.bool true, .int .i64 ((k : Int) + 1), .int .i64 1, .string ⟨#[]⟩, .slice none 0 0] 29)).cell? ⟨wr.heap.size, 1, none⟩ = some (.int .i64 kd) := ((Kp.refl (fun _ => False) w3).alloc _).cellv (k3.cellv e1 (fun e => sv_own HR.out HM.out (b := 0) e)) id; have z2 : (w3.alloc (.cells #[.bool true, .int .i64 ((k : Int) + 1), .int .i64 1, .string ⟨#[]⟩, .slice none 0 0] 29)).cell? ⟨wr.heap.size, 2, none⟩ = some (.string ky) := ((Kp.refl (fun _ => False) w3).alloc _).cellv (k3.cellv e2 (fun e => sv_own HR.out HM.out (b := 0) e)) id; have z3 : (w3.alloc (.cells #[.bool true, .int .i64 ((k : Int) + 1), .int .i64 1, .string ⟨#[]⟩, .slice none 0 0] 29)).cell? ⟨wr.heap.size, 3, none⟩ = some (.slice pb nb cb) := ((Kp.refl (fun _ => False) w3).alloc _).cellv (k3.cellv e3 (fun e => sv_own HR.out HM.out (b := 0) e)) id; have HS3 : Hid (Sm w w3 m1 m2 (2 * k) st B) := sv_keep HSm.out HR.out trivial HKu.out HV2 k3; have HSZ : Hid (Sm w (w3.alloc (.cells #[.bool true, .int .i64 ((k : Int) + 1), .int .i64 1, .string ⟨#[]⟩, .slice none 0 0] 29)) m1 m2 (2 * k) st B) := HS3.out.keep ((Kp.refl (fun _ => False) w3).alloc _) id id; have HLZ : Hid (Lv (w3.alloc (.cells #[.bool true, .int .i64 ((k : Int) + 1), .int .i64 1, .string ⟨#[]⟩, .slice none 0 0] 29)) w3.heap.size (ecell ⟨true, (k : Int) + 1, 1, noKey, by0⟩)) := Lv.new w3 _ _; have HRZ : Hid (Re w (w3.alloc (.cells #[.bool true, .int .i64 ((k : Int) + 1), .int .i64 1, .string ⟨#[]⟩, .slice none 0 0] 29)) (.slice q2 (es.length + 1) cj2) (es ++ [⟨false, (k : Int) + 1, kd, ky, ⟨.slice pb nb cb, x.b.xs⟩⟩])) := HR3.out.keep ((Kp.refl (fun _ => False) w3).alloc _); have hlk1 := HSZ.out.look1 ky HKy.out; rw [HZ.out] at hlk1;  clear hr3 k3))
            · go_roundg (n - (k + 1))
              case rel => exact ⟨k + 1, q2, cj2, es.length + 1, _, _, st, B, by omega, by omega, rfl, by first | rw [HK1.out] | rfl | go_num, rfl, by show _ = _; simp, HR3, HSv.out.lost ⟨false, (k : Int) + 1, kd, ky, ⟨.slice pb nb cb, x.b.xs⟩⟩ rfl HID.out HMay.out HE9.out, HS3.out.mono (by omega), ⟨by have := HKs.out; simp; omega, by have := HKs.out; simp; omega⟩⟩
              case measure => omega
            · have kdr : Kp (fun _ => False) (w3.alloc (.cells #[.bool true, .int .i64 ((k : Int) + 1), .int .i64 1, .string ⟨#[]⟩, .slice none 0 0] 29)) (w3.alloc (.cells #[.bool true, .int .i64 ((k : Int) + 1), .int .i64 1, .string ⟨#[]⟩, .slice none 0 0] 29)).drew := (Kp.refl _ _).drew
              obtain ⟨r1, W1, hr1, hS1, hK1⟩ := (HSZ.out.keep kdr id id).put1 (by have := HKs.out; omega) ky HKy.out 1
              obtain ⟨r2, Z1, hr2, hS2, hK2⟩ := hS1.put2 (by have := HKs.out; omega) ky HKy.out ⟨.slice pb nb cb, x.b.xs⟩ HBv.out
              have hlt3 := HS3.out.lt
              have hwl : wr.heap.size ≠ m1 ∧ wr.heap.size ≠ m2 := by have := HSm.out.lt; omega
              have HSz : Hid (Sm w Z1 m1 m2 (2 * k + 2) (setI st ky.data.toList 1) (setI B ky.data.toList ⟨.slice pb nb cb, x.b.xs⟩)) := hS2.mono (by omega)
              have hKK : Kp (fun x => x = m1 ∨ x = m2) (w3.alloc (.cells #[.bool true, .int .i64 ((k : Int) + 1), .int .i64 1, .string ⟨#[]⟩, .slice none 0 0] 29)) Z1 := ((kdr.mono (fun _ _ e => e.elim)).trans (hK1.mono (fun _ _ e => Or.inl e)) (fun _ _ e => e)).trans hK2 (fun _ _ e => Or.inr e)
              have HLz : Hid (Lv Z1 w3.heap.size (ecell ⟨true, (k : Int) + 1, 1, noKey, by0⟩)) := HLZ.out.keep hKK (fun e => by omega)
              have HRz : Hid (Re w Z1 (.slice q2 (es.length + 1) cj2) (es ++ [⟨false, (k : Int) + 1, kd, ky, ⟨.slice pb nb cb, x.b.xs⟩⟩])) := sv_re HRZ.out HSZ.out hKK
              refine sv_region ⟨by kernel_rfl, by kernel_rfl, by kernel_rfl, by kernel_rfl, by kernel_rfl, by kernel_rfl, by kernel_rfl, by kernel_rfl, by kernel_rfl, by kernel_rfl, by kernel_rfl, by kernel_rfl, by kernel_rfl, by kernel_rfl, by kernel_rfl, by kernel_rfl⟩ wr.heap.size m1 m2 ky (.slice pb nb cb) (fun d _ _ _ _ h => by cases d <;> exact h) (by rfl) (by rfl) (by rfl) (by rfl) W1 Z1 r1 r2 ⟨kdr.cellv z2 id, kdr.cellv z3 id⟩ ⟨hK1.cellv (kdr.cellv z2 id) hwl.1, hK1.cellv (kdr.cellv z3 id) hwl.1⟩ ⟨hK2.cellv (hK1.cellv (kdr.cellv z2 id) hwl.1) hwl.2, hK2.cellv (hK1.cellv (kdr.cellv z3 id) hwl.1) hwl.2⟩ hr1 hr2 ?_
              obtain ⟨lc2, lf2, lc4, lf4, hly, hky2⟩ := ev_sets HLz.out; have HLy : Hid (Lv ((Z1.setCell ⟨w3.heap.size, 2, none⟩ (.int .i64 4)).setCell ⟨w3.heap.size, 4, none⟩ (.slice none 0 0)) w3.heap.size (ecell ⟨true, (k : Int) + 1, 4, noKey, by0⟩)) := hly; have HKy2 : Hid (Kp (fun x => x = w3.heap.size) Z1 ((Z1.setCell ⟨w3.heap.size, 2, none⟩ (.int .i64 4)).setCell ⟨w3.heap.size, 4, none⟩ (.slice none 0 0))) := hky2; have HYn : Hid (∀ b, Value.ownBlock (.slice q2 (es.length + 1) cj2) = some b → ¬ (b = w3.heap.size)) := (fun b e e2 => by have := (ownBlock_lt HR3.out.o e).2; omega); clear hly hky2
              clear hr1 hr2 hS1 hS2 hK1 hK2 hKK kdr z1 z2 z3 hlk1 hwl hlt3
              simp only [Act.put, List.setIfInBounds_toArray, List.set_cons_succ, List.set_cons_zero]
              go_wp2_with (first | (refine wpList_load_all rfl 29 _ rfl 5 w3.heap.size (ecell ⟨true, (k : Int) + 1, 1, noKey, by0⟩) rfl HLz.out dsEv szEv rfl ?_) | (refine wpList_load_all rfl 29 _ rfl 5 w3.heap.size (ecell ⟨true, (k : Int) + 1, 4, noKey, by0⟩) rfl HLy.out dsEv szEv rfl ?_) | (at_builtin; refine wpList_app_e (w0 := w) (v := Z1) (es := es ++ [⟨false, (k : Int) + 1, kd, ky, ⟨.slice pb nb cb, x.b.xs⟩⟩]) HRz.out ⟨true, (k : Int) + 1, 1, noKey, by0⟩ HA1.out (by rw [List.length_append]; have := HE9.out; have := HKs.out; simp; omega) rfl _ _ rfl rfl Z1.heap.size rfl rfl ?_; intro q4 cj4 w4 hr4 k4; have HR4 : Hid (Re w w4 _ ((es ++ [⟨false, (k : Int) + 1, kd, ky, ⟨.slice pb nb cb, x.b.xs⟩⟩]) ++ [⟨true, (k : Int) + 1, 1, noKey, by0⟩])) := hr4; have HS4 : Hid (Sm w w4 m1 m2 (2 * k + 2) (setI st ky.data.toList 1) (setI B ky.data.toList ⟨.slice pb nb cb, x.b.xs⟩)) := sv_keep3 HSz.out HRz.out k4; have HSrv : Hid (∃ cs', cs'.length = cs.length + 1 ∧ Srv ((es ++ [⟨false, (k : Int) + 1, kd, ky, ⟨.slice pb nb cb, x.b.xs⟩⟩]) ++ [⟨true, (k : Int) + 1, 1, noKey, by0⟩]) cs' (setI st ky.data.toList 1) (fun s => ((setI B ky.data.toList ⟨.slice pb nb cb, x.b.xs⟩) s).xs)) := (by rw [HKd.out]; have h9 := HSv.out.put0 HE9.out ky ⟨.slice pb nb cb, x.b.xs⟩ _ HID.out HZ.out 1 (Or.inl rfl); rw [setI_xs] at h9; exact h9); clear hr4 k4) | (at_builtin; refine wpList_app_e (w0 := w) (v := ((Z1.setCell ⟨w3.heap.size, 2, none⟩ (.int .i64 4)).setCell ⟨w3.heap.size, 4, none⟩ (.slice none 0 0))) (es := es ++ [⟨false, (k : Int) + 1, kd, ky, ⟨.slice pb nb cb, x.b.xs⟩⟩]) (HRz.out.keep2 HKy2.out HYn.out (fun b hb e => by have := HR3.out.k.size; omega)) ⟨true, (k : Int) + 1, 4, noKey, by0⟩ HA4.out (by rw [List.length_append]; have := HE9.out; have := HKs.out; simp; omega) rfl _ _ rfl rfl Z1.heap.size (by simp) rfl ?_; intro q4 cj4 w4 hr4 k4; have HR4 : Hid (Re w w4 _ ((es ++ [⟨false, (k : Int) + 1, kd, ky, ⟨.slice pb nb cb, x.b.xs⟩⟩]) ++ [⟨true, (k : Int) + 1, 4, noKey, by0⟩])) := hr4; have HS4 : Hid (Sm w w4 m1 m2 (2 * k + 2) (setI st ky.data.toList 1) (setI B ky.data.toList ⟨.slice pb nb cb, x.b.xs⟩)) := sv_keep3 (HSz.out.keep HKy2.out (fun e => by have := HS3.out.lt; omega) (fun e => by have := HS3.out.lt; omega)) (HRz.out.keep2 HKy2.out HYn.out (fun b hb e => by have := HR3.out.k.size; omega)) k4; have HSrv : Hid (∃ cs', cs'.length = cs.length + 1 ∧ Srv ((es ++ [⟨false, (k : Int) + 1, kd, ky, ⟨.slice pb nb cb, x.b.xs⟩⟩]) ++ [⟨true, (k : Int) + 1, 4, noKey, by0⟩]) cs' (setI st ky.data.toList 1) (fun s => ((setI B ky.data.toList ⟨.slice pb nb cb, x.b.xs⟩) s).xs)) := (by rw [HKd.out]; have h9 := HSv.out.put0 HE9.out ky ⟨.slice pb nb cb, x.b.xs⟩ _ HID.out HZ.out 4 (Or.inr rfl); rw [setI_xs] at h9; exact h9); clear hr4 k4))
              all_goals
                obtain ⟨cs', hc', hs'⟩ := HSrv.out
                go_roundg (n - (k + 1))
                case rel =>
                  have hr := HR4.out
                  rw [show (es ++ [(⟨false, (k : Int) + 1, kd, ky, ⟨.slice pb nb cb, x.b.xs⟩⟩ : Ev)]).length = es.length + 1 by simp] at hr
                  exact ⟨k + 1, q4, cj4, es.length + 1 + 1, _, cs', setI st ky.data.toList 1, setI B ky.data.toList ⟨.slice pb nb cb, x.b.xs⟩, by omega, by omega, rfl, by first | rw [HK1.out] | rfl | go_num, rfl, by show _ = _; simp, hr, hs', HS4.out.mono (by omega), ⟨by have := HKs.out; omega, by have := HKs.out; simp; omega⟩⟩
                case measure => omega
          · have hk1b : (kd != 1) = false := by simpa using hk1
            have hk1c : (kd == 1) = true := by simpa using hk1
            have HKd : Hid (kd = 1) := hk1
            have HBN : Hid (By.ok w by0) := by0_ok w
            have HZ : Hid (st ky.data.toList ≠ 0) := hz
            obtain ⟨zs, hzs⟩ : ∃ z, z = st ky.data.toList := ⟨_, rfl⟩
            have hzb : (zs == 0) = false := by rw [hzs]; simpa using hz
            have HZS : Hid (zs = st ky.data.toList) := hzs
            clear hk1 hz hzs
            have HEo : Hid (Ev.ok w ⟨false, (k : Int) + 1, kd, ky, ⟨.slice pb nb cb, x.b.xs⟩⟩) := ⟨(show By.ok w ⟨.slice pb nb cb, x.b.xs⟩ from HBv.out), (by dsimp only; omega), HKy.out⟩
            have HMay : Hid (mayAskP ⟨false, (k : Int) + 1, kd, ky, ⟨.slice pb nb cb, x.b.xs⟩⟩ = true) := may_put k kd ky _ HKd.out
            have HAN : Hid (Ev.ok w ⟨true, (k : Int) + 1, 2, noKey, by0⟩) := ⟨HBN.out, (by dsimp only; omega), Nat.zero_le _⟩
            have HA4 : Hid (Ev.ok w ⟨true, (k : Int) + 1, 4, noKey, by0⟩) := ⟨by0_ok w, (by dsimp only; omega), Nat.zero_le _⟩
            go_wp2_with (first | (refine wpList_load_mid rfl 38 _ rfl b1 (o1 + k * 4) rfl xs d HR1.out hd1 hd2 (by rw [szAk, HXS.out.2]) ?_) | (refine wpList_store_all rfl 38 _ _ rfl 4 wr.heap.size (acell ak0) xs rfl rfl (by exact Lv.new wr _ _) szAk rfl HXS.out.2 HO1.out ?_; intro u1 hl1 k1; have HKu : Hid (Kp (fun _ => False) wr u1) := ((Kp.refl (fun _ => False) wr).alloc _).trans k1 (fun b hb e => by omega); have HUl : Hid (wr.heap.size < u1.heap.size) := hl1.lt (by rw [HXS.out.2]; decide); have c1 : u1.cell? ⟨wr.heap.size, 1, none⟩ = some (.int .i64 zk) := hl1.cell (j := 1) HX4.out.1; have f1 := hl1.fz (j := 1) (by rw [HXS.out.2]; decide); obtain ⟨e1, e2, e3, f3, g1, g2, g3, HV2, HV3⟩ := ak_sets hl1 HXS.out.2 HX4.out.1 HX4.out.2.1 HX4.out.2.2 kd; clear hl1 k1) | (at_builtin; refine wpList_app_e (w0 := w) (v := (u1.setCell ⟨wr.heap.size, 1, none⟩ (.int .i64 kd))) (es := es) (HR.out.keep (HKu.out.trans HV2 (fun b hb e => by omega))) ⟨false, (k : Int) + 1, kd, ky, ⟨.slice pb nb cb, x.b.xs⟩⟩ HEo.out (by have := HE9.out; omega) rfl _ _ rfl rfl u1.heap.size (by simp) rfl ?_; intro q2 cj2 w3 hr3 k3; have HR3 : Hid (Re w w3 (.slice q2 (es.length + 1) cj2) (es ++ [⟨false, (k : Int) + 1, kd, ky, ⟨.slice pb nb cb, x.b.xs⟩⟩])) := hr3; have z1 : (w3.alloc (.cells #[.bool true, .int .i64 ((k : Int) + 1), .int .i64 1, .string ⟨#[]⟩, .slice none 0 0] 29)).cell? ⟨wr.heap.size, 1, none⟩ = some (.int .i64 kd) := ((Kp.refl (fun _ => False) w3).alloc _).cellv (k3.cellv e1 (fun e => sv_own HR.out HM.out (b := 0) e)) id; have z2 : (w3.alloc (.cells #[.bool true, .int .i64 ((k : Int) + 1), .int .i64 1, .string ⟨#[]⟩, .slice none 0 0] 29)).cell? ⟨wr.heap.size, 2, none⟩ = some (.string ky) := ((Kp.refl (fun _ => False) w3).alloc _).cellv (k3.cellv e2 (fun e => sv_own HR.out HM.out (b := 0) e)) id; have HS3 : Hid (Sm w w3 m1 m2 (2 * k) st B) := sv_keep HSm.out HR.out trivial HKu.out HV2 k3; have hlk1 := (HS3.out.keep ((Kp.refl (fun _ => False) w3).alloc (.cells #[.bool true, .int .i64 ((k : Int) + 1), .int .i64 1, .string ⟨#[]⟩, .slice none 0 0] 29)) id id).look1 ky HKy.out; rw [← HZS.out] at hlk1; clear hr3 k3) | (at_builtin; refine wpList_app_e (w0 := w) (v := (w3.alloc (.cells #[.bool true, .int .i64 ((k : Int) + 1), .int .i64 2, .string ⟨#[]⟩, .slice none 0 0] 29))) (es := es ++ [⟨false, (k : Int) + 1, kd, ky, ⟨.slice pb nb cb, x.b.xs⟩⟩]) (HR3.out.keep ((Kp.refl _ _).alloc _)) ⟨true, (k : Int) + 1, 2, noKey, by0⟩ HAN.out (by rw [List.length_append]; have := HE9.out; have := HKs.out; simp; omega) rfl _ _ rfl rfl (w3.heap.size + 1) (by simp) rfl ?_; intro q4 cj4 w4 hr4 k4; have HR4 : Hid (Re w w4 _ ((es ++ [⟨false, (k : Int) + 1, kd, ky, ⟨.slice pb nb cb, x.b.xs⟩⟩]) ++ [⟨true, (k : Int) + 1, 2, noKey, by0⟩])) := hr4; have HS4 : Hid (Sm w w4 m1 m2 (2 * k) st B) := sv_keep2 HS3.out HR3.out k4; have HSrv : Hid (∃ cs', cs'.length = cs.length + 1 ∧ Srv ((es ++ [⟨false, (k : Int) + 1, kd, ky, ⟨.slice pb nb cb, x.b.xs⟩⟩]) ++ [⟨true, (k : Int) + 1, 2, noKey, by0⟩]) cs' st (fun s => (B s).xs)) := (by rw [HKd.out]; exact HSv.out.put1 HE9.out ky _ _ HID.out HZ.out 2 (Or.inl rfl)); clear hr4 k4) | (at_builtin; refine wpList_app_e (w0 := w) (v := (w3.alloc (.cells #[.bool true, .int .i64 ((k : Int) + 1), .int .i64 4, .string ⟨#[]⟩, .slice none 0 0] 29))) (es := es ++ [⟨false, (k : Int) + 1, kd, ky, ⟨.slice pb nb cb, x.b.xs⟩⟩]) (HR3.out.keep ((Kp.refl _ _).alloc _)) ⟨true, (k : Int) + 1, 4, noKey, by0⟩ HA4.out (by rw [List.length_append]; have := HE9.out; have := HKs.out; simp; omega) rfl _ _ rfl rfl (w3.heap.size + 1) (by simp) rfl ?_; intro q4 cj4 w4 hr4 k4; have HR4 : Hid (Re w w4 _ ((es ++ [⟨false, (k : Int) + 1, kd, ky, ⟨.slice pb nb cb, x.b.xs⟩⟩]) ++ [⟨true, (k : Int) + 1, 4, noKey, by0⟩])) := hr4; have HS4 : Hid (Sm w w4 m1 m2 (2 * k) st B) := sv_keep2 HS3.out HR3.out k4; have HSrv : Hid (∃ cs', cs'.length = cs.length + 1 ∧ Srv ((es ++ [⟨false, (k : Int) + 1, kd, ky, ⟨.slice pb nb cb, x.b.xs⟩⟩]) ++ [⟨true, (k : Int) + 1, 4, noKey, by0⟩]) cs' st (fun s => (B s).xs)) := (by rw [HKd.out]; exact HSv.out.put1 HE9.out ky _ _ HID.out HZ.out 4 (Or.inr rfl)); clear hr4 k4))
            · go_roundg (n - (k + 1))
              case rel => exact ⟨k + 1, q2, cj2, es.length + 1, _, _, st, B, by omega, by omega, rfl, by first | rw [HK1.out] | rfl | go_num, rfl, by show _ = _; simp, HR3, HSv.out.lost ⟨false, (k : Int) + 1, kd, ky, ⟨.slice pb nb cb, x.b.xs⟩⟩ rfl HID.out HMay.out HE9.out, HS3.out.mono (by omega), ⟨by have := HKs.out; simp; omega, by have := HKs.out; simp; omega⟩⟩
              case measure => omega
            all_goals
              obtain ⟨cs', hc', hs'⟩ := HSrv.out
              go_roundg (n - (k + 1))
              case rel =>
                have hr := HR4.out
                rw [show (es ++ [(⟨false, (k : Int) + 1, kd, ky, ⟨.slice pb nb cb, x.b.xs⟩⟩ : Ev)]).length = es.length + 1 by simp] at hr
                exact ⟨k + 1, q4, cj4, es.length + 1 + 1, _, cs', st, B, by omega, by omega, rfl, by first | rw [HK1.out] | rfl | go_num, rfl, by show _ = _; simp, hr, hs', HS4.out.mono (by omega), ⟨by have := HKs.out; omega, by have := HKs.out; simp; omega⟩⟩
              case measure => omega
        · have HKo : Hid (kd = 2 ∨ kd = 3) := HKD.out.resolve_left hk1
          have hk1b : (kd != 1) = true := by simpa using hk1
          have hk1c : (kd == 1) = false := by simpa using hk1
          clear hk1
          by_cases hz : st ky.data.toList = 1
          · by_cases hk2 : kd = 2
            · have HKd : Hid (kd = 2) := hk2
              have hk2b : (kd == 2) = true := by simpa using hk2
              have HZ : Hid (st ky.data.toList = 1) := hz
              obtain ⟨⟨pB, cB, hB, hBr⟩, hBn⟩ := HSm.out.o ky.data.toList
              obtain ⟨nB, hnB⟩ : ∃ n, n = (B ky.data.toList).xs.length := ⟨_, rfl⟩
              obtain ⟨xB, hxB⟩ : ∃ x, x = (B ky.data.toList).xs := ⟨_, rfl⟩
              rw [← hnB] at hB
              have HBN : Hid (By.ok w ⟨.slice pB nB cB, xB⟩) := by have := HSm.out.o ky.data.toList; rw [hxB, ← hB]; exact this
              have HB : Hid ((B ky.data.toList).v = .slice pB nB cB ∧ xB = (B ky.data.toList).xs) := ⟨hB, hxB⟩
              clear hz hk2 hB hBr hBn hnB hxB
              have HEo : Hid (Ev.ok w ⟨false, (k : Int) + 1, kd, ky, by0⟩) := ⟨by0_ok w, (by dsimp only; omega), HKy.out⟩
              have HMay : Hid (mayAskP ⟨false, (k : Int) + 1, kd, ky, by0⟩ = true) := may_other k kd ky HKo.out
              have HAN : Hid (Ev.ok w ⟨true, (k : Int) + 1, 1, noKey, ⟨.slice pB nB cB, xB⟩⟩) := ⟨HBN.out, (by dsimp only; omega), Nat.zero_le _⟩
              have HA4 : Hid (Ev.ok w ⟨true, (k : Int) + 1, 4, noKey, by0⟩) := ⟨by0_ok w, (by dsimp only; omega), Nat.zero_le _⟩
              go_wp2_with (first | (refine wpList_load_mid rfl 38 _ rfl b1 (o1 + k * 4) rfl xs d HR1.out hd1 hd2 (by rw [szAk, HXS.out.2]) ?_) | (refine wpList_store_all rfl 38 _ _ rfl 4 wr.heap.size (acell ak0) xs rfl rfl (by exact Lv.new wr _ _) szAk rfl HXS.out.2 HO1.out ?_; intro u1 hl1 k1; have HKu : Hid (Kp (fun _ => False) wr u1) := ((Kp.refl (fun _ => False) wr).alloc _).trans k1 (fun b hb e => by omega); have HUl : Hid (wr.heap.size < u1.heap.size) := hl1.lt (by rw [HXS.out.2]; decide); have c1 : u1.cell? ⟨wr.heap.size, 1, none⟩ = some (.int .i64 zk) := hl1.cell (j := 1) HX4.out.1; have f1 := hl1.fz (j := 1) (by rw [HXS.out.2]; decide); obtain ⟨e1, e2, e3, f3, g1, g2, g3, HV2, HV3⟩ := ak_sets hl1 HXS.out.2 HX4.out.1 HX4.out.2.1 HX4.out.2.2 kd; clear hl1 k1) | (at_builtin; refine wpList_app_e (w0 := w) (v := ((u1.setCell ⟨wr.heap.size, 1, none⟩ (.int .i64 kd)).setCell ⟨wr.heap.size, 3, none⟩ (.slice none 0 0))) (es := es) (HR.out.keep (HKu.out.trans HV3 (fun b hb e => by omega))) ⟨false, (k : Int) + 1, kd, ky, by0⟩ HEo.out (by have := HE9.out; omega) rfl _ _ rfl rfl u1.heap.size (by simp) rfl ?_; intro q2 cj2 w3 hr3 k3; have HR3 : Hid (Re w w3 (.slice q2 (es.length + 1) cj2) (es ++ [⟨false, (k : Int) + 1, kd, ky, by0⟩])) := hr3; have z1 : (w3.alloc (.cells #[.bool true, .int .i64 ((k : Int) + 1), .int .i64 1, .string ⟨#[]⟩, .slice none 0 0] 29)).cell? ⟨wr.heap.size, 1, none⟩ = some (.int .i64 kd) := ((Kp.refl (fun _ => False) w3).alloc _).cellv (k3.cellv g1 (fun e => sv_own HR.out HM.out (b := 0) e)) id; have z2 : (w3.alloc (.cells #[.bool true, .int .i64 ((k : Int) + 1), .int .i64 1, .string ⟨#[]⟩, .slice none 0 0] 29)).cell? ⟨wr.heap.size, 2, none⟩ = some (.string ky) := ((Kp.refl (fun _ => False) w3).alloc _).cellv (k3.cellv g2 (fun e => sv_own HR.out HM.out (b := 0) e)) id; have HS3 : Hid (Sm w w3 m1 m2 (2 * k) st B) := sv_keep HSm.out HR.out trivial HKu.out HV3 k3; have hlk1 := (HS3.out.keep ((Kp.refl (fun _ => False) w3).alloc (.cells #[.bool true, .int .i64 ((k : Int) + 1), .int .i64 1, .string ⟨#[]⟩, .slice none 0 0] 29)) id id).look1 ky HKy.out; rw [HZ.out] at hlk1; have hlk2 := (HS3.out.keep ((Kp.refl (fun _ => False) w3).alloc (.cells #[.bool true, .int .i64 ((k : Int) + 1), .int .i64 1, .string ⟨#[]⟩, .slice none 0 0] 29)) id id).look2 ky HKy.out; rw [HB.out.1] at hlk2; clear hr3 k3) | (at_builtin; refine wpList_app_e (w0 := w) (v := (w3.alloc (.cells #[.bool true, .int .i64 ((k : Int) + 1), .int .i64 1, .string ⟨#[]⟩, .slice pB nB cB] 29))) (es := es ++ [⟨false, (k : Int) + 1, kd, ky, by0⟩]) (HR3.out.keep ((Kp.refl _ _).alloc _)) ⟨true, (k : Int) + 1, 1, noKey, ⟨.slice pB nB cB, xB⟩⟩ HAN.out (by rw [List.length_append]; have := HE9.out; have := HKs.out; simp; omega) rfl _ _ rfl rfl (w3.heap.size + 1) (by simp) rfl ?_; intro q4 cj4 w4 hr4 k4; have HR4 : Hid (Re w w4 _ ((es ++ [⟨false, (k : Int) + 1, kd, ky, by0⟩]) ++ [⟨true, (k : Int) + 1, 1, noKey, ⟨.slice pB nB cB, xB⟩⟩])) := hr4; have HS4 : Hid (Sm w w4 m1 m2 (2 * k) st B) := sv_keep2 HS3.out HR3.out k4; have HSrv : Hid (∃ cs', cs'.length = cs.length + 1 ∧ Srv ((es ++ [⟨false, (k : Int) + 1, kd, ky, by0⟩]) ++ [⟨true, (k : Int) + 1, 1, noKey, ⟨.slice pB nB cB, xB⟩⟩]) cs' st (fun s => (B s).xs)) := (by rw [HKd.out]; exact HSv.out.get1 HE9.out ky _ HID.out HZ.out 1 ⟨.slice pB nB cB, xB⟩ (Or.inl ⟨rfl, HB.out.2⟩)); clear hr4 k4) | (at_builtin; refine wpList_app_e (w0 := w) (v := (w3.alloc (.cells #[.bool true, .int .i64 ((k : Int) + 1), .int .i64 4, .string ⟨#[]⟩, .slice none 0 0] 29))) (es := es ++ [⟨false, (k : Int) + 1, kd, ky, by0⟩]) (HR3.out.keep ((Kp.refl _ _).alloc _)) ⟨true, (k : Int) + 1, 4, noKey, by0⟩ HA4.out (by rw [List.length_append]; have := HE9.out; have := HKs.out; simp; omega) rfl _ _ rfl rfl (w3.heap.size + 1) (by simp) rfl ?_; intro q4 cj4 w4 hr4 k4; have HR4 : Hid (Re w w4 _ ((es ++ [⟨false, (k : Int) + 1, kd, ky, by0⟩]) ++ [⟨true, (k : Int) + 1, 4, noKey, by0⟩])) := hr4; have HS4 : Hid (Sm w w4 m1 m2 (2 * k) st B) := sv_keep2 HS3.out HR3.out k4; have HSrv : Hid (∃ cs', cs'.length = cs.length + 1 ∧ Srv ((es ++ [⟨false, (k : Int) + 1, kd, ky, by0⟩]) ++ [⟨true, (k : Int) + 1, 4, noKey, by0⟩]) cs' st (fun s => (B s).xs)) := (by rw [HKd.out]; exact HSv.out.get1 HE9.out ky _ HID.out HZ.out 4 by0 (Or.inr ⟨rfl, rfl⟩)); clear hr4 k4))
              · go_roundg (n - (k + 1))
                case rel => exact ⟨k + 1, q2, cj2, es.length + 1, _, _, st, B, by omega, by omega, rfl, by first | rw [HK1.out] | rfl | go_num, rfl, by show _ = _; simp, HR3, HSv.out.lost ⟨false, (k : Int) + 1, kd, ky, by0⟩ rfl HID.out HMay.out HE9.out, HS3.out.mono (by omega), ⟨by have := HKs.out; simp; omega, by have := HKs.out; simp; omega⟩⟩
                case measure => omega
              all_goals
                obtain ⟨cs', hc', hs'⟩ := HSrv.out
                go_roundg (n - (k + 1))
                case rel =>
                  have hr := HR4.out
                  rw [show (es ++ [(⟨false, (k : Int) + 1, kd, ky, by0⟩ : Ev)]).length = es.length + 1 by simp] at hr
                  exact ⟨k + 1, q4, cj4, es.length + 1 + 1, _, cs', st, B, by omega, by omega, rfl, by first | rw [HK1.out] | rfl | go_num, rfl, by show _ = _; simp, hr, hs', HS4.out.mono (by omega), ⟨by have := HKs.out; omega, by have := HKs.out; simp; omega⟩⟩
                case measure => omega
            · have HKd : Hid (kd = 3) := by show _ = _; have := HKo.out; omega
              have hk2b : (kd == 2) = false := by simpa using hk2
              have HZ : Hid (st ky.data.toList = 1) := hz
              clear hz hk2
              have HEo : Hid (Ev.ok w ⟨false, (k : Int) + 1, kd, ky, by0⟩) := ⟨by0_ok w, (by dsimp only; omega), HKy.out⟩
              have HMay : Hid (mayAskP ⟨false, (k : Int) + 1, kd, ky, by0⟩ = true) := may_other k kd ky HKo.out
              have HA1 : Hid (Ev.ok w ⟨true, (k : Int) + 1, 1, noKey, by0⟩) := ⟨by0_ok w, (by dsimp only; omega), Nat.zero_le _⟩
              have HA4 : Hid (Ev.ok w ⟨true, (k : Int) + 1, 4, noKey, by0⟩) := ⟨by0_ok w, (by dsimp only; omega), Nat.zero_le _⟩
              go_wp2_with (first | (refine wpList_load_mid rfl 38 _ rfl b1 (o1 + k * 4) rfl xs d HR1.out hd1 hd2 (by rw [szAk, HXS.out.2]) ?_) | (refine wpList_store_all rfl 38 _ _ rfl 4 wr.heap.size (acell ak0) xs rfl rfl (by exact Lv.new wr _ _) szAk rfl HXS.out.2 HO1.out ?_; intro u1 hl1 k1; have HKu : Hid (Kp (fun _ => False) wr u1) := ((Kp.refl (fun _ => False) wr).alloc _).trans k1 (fun b hb e => by omega); have c1 : u1.cell? ⟨wr.heap.size, 1, none⟩ = some (.int .i64 zk) := hl1.cell (j := 1) HX4.out.1; have f1 := hl1.fz (j := 1) (by rw [HXS.out.2]; decide); obtain ⟨e1, e2, e3, f3, g1, g2, g3, HV2, HV3⟩ := ak_sets hl1 HXS.out.2 HX4.out.1 HX4.out.2.1 HX4.out.2.2 kd; clear hl1 k1) | (at_builtin; refine wpList_app_e (w0 := w) (v := ((u1.setCell ⟨wr.heap.size, 1, none⟩ (.int .i64 kd)).setCell ⟨wr.heap.size, 3, none⟩ (.slice none 0 0))) (es := es) (HR.out.keep (HKu.out.trans HV3 (fun b hb e => by omega))) ⟨false, (k : Int) + 1, kd, ky, by0⟩ HEo.out (by have := HE9.out; omega) rfl _ _ rfl rfl u1.heap.size (by simp) rfl ?_; intro q2 cj2 w3 hr3 k3; have HR3 : Hid (Re w w3 (.slice q2 (es.length + 1) cj2) (es ++ [⟨false, (k : Int) + 1, kd, ky, by0⟩])) := hr3; have z1 : (w3.alloc (.cells #[.bool true, .int .i64 ((k : Int) + 1), .int .i64 1, .string ⟨#[]⟩, .slice none 0 0] 29)).cell? ⟨wr.heap.size, 1, none⟩ = some (.int .i64 kd) := ((Kp.refl (fun _ => False) w3).alloc _).cellv (k3.cellv g1 (fun e => sv_own HR.out HM.out (b := 0) e)) id; have z2 : (w3.alloc (.cells #[.bool true, .int .i64 ((k : Int) + 1), .int .i64 1, .string ⟨#[]⟩, .slice none 0 0] 29)).cell? ⟨wr.heap.size, 2, none⟩ = some (.string ky) := ((Kp.refl (fun _ => False) w3).alloc _).cellv (k3.cellv g2 (fun e => sv_own HR.out HM.out (b := 0) e)) id;  have HS3 : Hid (Sm w w3 m1 m2 (2 * k) st B) := sv_keep HSm.out HR.out trivial HKu.out HV3 k3; have HSZ : Hid (Sm w (w3.alloc (.cells #[.bool true, .int .i64 ((k : Int) + 1), .int .i64 1, .string ⟨#[]⟩, .slice none 0 0] 29)) m1 m2 (2 * k) st B) := HS3.out.keep ((Kp.refl (fun _ => False) w3).alloc _) id id; have HLZ : Hid (Lv (w3.alloc (.cells #[.bool true, .int .i64 ((k : Int) + 1), .int .i64 1, .string ⟨#[]⟩, .slice none 0 0] 29)) w3.heap.size (ecell ⟨true, (k : Int) + 1, 1, noKey, by0⟩)) := Lv.new w3 _ _; have HRZ : Hid (Re w (w3.alloc (.cells #[.bool true, .int .i64 ((k : Int) + 1), .int .i64 1, .string ⟨#[]⟩, .slice none 0 0] 29)) (.slice q2 (es.length + 1) cj2) (es ++ [⟨false, (k : Int) + 1, kd, ky, by0⟩])) := HR3.out.keep ((Kp.refl (fun _ => False) w3).alloc _); have hlk1 := HSZ.out.look1 ky HKy.out; rw [HZ.out] at hlk1; obtain ⟨r9, Z1, hmu, hS9, hK9⟩ := HSZ.out.put1 (by have := HKs.out; omega) ky HKy.out 2; have HSz : Hid (Sm w Z1 m1 m2 (2 * k + 2) (setI st ky.data.toList 2) B) := hS9.mono (by omega); have HLz := HLZ.out.keep hK9 (fun e => by have := HS3.out.lt; omega); have HLz : Hid (Lv Z1 w3.heap.size (ecell ⟨true, (k : Int) + 1, 1, noKey, by0⟩)) := HLz; have HRz : Hid (Re w Z1 (.slice q2 (es.length + 1) cj2) (es ++ [⟨false, (k : Int) + 1, kd, ky, by0⟩])) := sv_re HRZ.out HSZ.out (hK9.mono (fun b _ e => Or.inl e)); obtain ⟨lc2, lf2, lc4, lf4, hly, hky2⟩ := ev_sets HLz.out; have HLy : Hid (Lv ((Z1.setCell ⟨w3.heap.size, 2, none⟩ (.int .i64 4)).setCell ⟨w3.heap.size, 4, none⟩ (.slice none 0 0)) w3.heap.size (ecell ⟨true, (k : Int) + 1, 4, noKey, by0⟩)) := hly; have HKy2 : Hid (Kp (fun x => x = w3.heap.size) Z1 ((Z1.setCell ⟨w3.heap.size, 2, none⟩ (.int .i64 4)).setCell ⟨w3.heap.size, 4, none⟩ (.slice none 0 0))) := hky2; have HYn : Hid (∀ b, Value.ownBlock (.slice q2 (es.length + 1) cj2) = some b → ¬ (b = w3.heap.size)) := (fun b e e2 => by have := (ownBlock_lt HR3.out.o e).2; omega); clear hly hky2; clear hS9 hK9; clear hr3 k3) | (refine wpList_load_all rfl 29 _ rfl 5 w3.heap.size (ecell ⟨true, (k : Int) + 1, 1, noKey, by0⟩) rfl HLz.out dsEv szEv rfl ?_) | (refine wpList_load_all rfl 29 _ rfl 5 w3.heap.size (ecell ⟨true, (k : Int) + 1, 4, noKey, by0⟩) rfl HLy.out dsEv szEv rfl ?_) | (at_builtin; refine wpList_app_e (w0 := w) (v := Z1) (es := es ++ [⟨false, (k : Int) + 1, kd, ky, by0⟩]) HRz.out ⟨true, (k : Int) + 1, 1, noKey, by0⟩ HA1.out (by rw [List.length_append]; have := HE9.out; have := HKs.out; simp; omega) rfl _ _ rfl rfl Z1.heap.size rfl rfl ?_; intro q4 cj4 w4 hr4 k4; have HR4 : Hid (Re w w4 _ ((es ++ [⟨false, (k : Int) + 1, kd, ky, by0⟩]) ++ [⟨true, (k : Int) + 1, 1, noKey, by0⟩])) := hr4; have HS4 : Hid (Sm w w4 m1 m2 (2 * k + 2) (setI st ky.data.toList 2) (B)) := sv_keep3 HSz.out HRz.out k4; have HSrv : Hid (∃ cs', cs'.length = cs.length + 1 ∧ Srv ((es ++ [⟨false, (k : Int) + 1, kd, ky, by0⟩]) ++ [⟨true, (k : Int) + 1, 1, noKey, by0⟩]) cs' (setI st ky.data.toList 2) (fun s => ((B) s).xs)) := (by rw [HKd.out]; exact HSv.out.del1 HE9.out ky _ HID.out HZ.out 1 (Or.inl rfl)); clear hr4 k4) | (at_builtin; refine wpList_app_e (w0 := w) (v := ((Z1.setCell ⟨w3.heap.size, 2, none⟩ (.int .i64 4)).setCell ⟨w3.heap.size, 4, none⟩ (.slice none 0 0))) (es := es ++ [⟨false, (k : Int) + 1, kd, ky, by0⟩]) (HRz.out.keep2 HKy2.out HYn.out (fun b hb e => by have := HR3.out.k.size; omega)) ⟨true, (k : Int) + 1, 4, noKey, by0⟩ HA4.out (by rw [List.length_append]; have := HE9.out; have := HKs.out; simp; omega) rfl _ _ rfl rfl Z1.heap.size (by simp) rfl ?_; intro q4 cj4 w4 hr4 k4; have HR4 : Hid (Re w w4 _ ((es ++ [⟨false, (k : Int) + 1, kd, ky, by0⟩]) ++ [⟨true, (k : Int) + 1, 4, noKey, by0⟩])) := hr4; have HS4 : Hid (Sm w w4 m1 m2 (2 * k + 2) (setI st ky.data.toList 2) (B)) := sv_keep3 (HSz.out.keep HKy2.out (fun e => by have := HS3.out.lt; omega) (fun e => by have := HS3.out.lt; omega)) (HRz.out.keep2 HKy2.out HYn.out (fun b hb e => by have := HR3.out.k.size; omega)) k4; have HSrv : Hid (∃ cs', cs'.length = cs.length + 1 ∧ Srv ((es ++ [⟨false, (k : Int) + 1, kd, ky, by0⟩]) ++ [⟨true, (k : Int) + 1, 4, noKey, by0⟩]) cs' (setI st ky.data.toList 2) (fun s => ((B) s).xs)) := (by rw [HKd.out]; exact HSv.out.del1 HE9.out ky _ HID.out HZ.out 4 (Or.inr rfl)); clear hr4 k4))
              · go_roundg (n - (k + 1))
                case rel => exact ⟨k + 1, q2, cj2, es.length + 1, _, _, st, B, by omega, by omega, rfl, by first | rw [HK1.out] | rfl | go_num, rfl, by show _ = _; simp, HR3, HSv.out.lost ⟨false, (k : Int) + 1, kd, ky, by0⟩ rfl HID.out HMay.out HE9.out, HS3.out.mono (by omega), ⟨by have := HKs.out; simp; omega, by have := HKs.out; simp; omega⟩⟩
                case measure => omega
              all_goals
                obtain ⟨cs', hc', hs'⟩ := HSrv.out
                go_roundg (n - (k + 1))
                case rel =>
                  have hr := HR4.out
                  rw [show (es ++ [(⟨false, (k : Int) + 1, kd, ky, by0⟩ : Ev)]).length = es.length + 1 by simp] at hr
                  exact ⟨k + 1, q4, cj4, es.length + 1 + 1, _, cs', setI st ky.data.toList 2, B, by omega, by omega, rfl, by first | rw [HK1.out] | rfl | go_num, rfl, by show _ = _; simp, hr, hs', HS4.out.mono (by omega), ⟨by have := HKs.out; omega, by have := HKs.out; simp; omega⟩⟩
                case measure => omega
          · have HBN : Hid (By.ok w by0) := by0_ok w
            have HZ : Hid (st ky.data.toList ≠ 1) := hz
            obtain ⟨zs, hzs⟩ : ∃ z, z = st ky.data.toList := ⟨_, rfl⟩
            have hzb : (zs != 1) = true := by rw [hzs]; simpa using hz
            have HZS : Hid (zs = st ky.data.toList) := hzs
            clear hz hzs
            have HEo : Hid (Ev.ok w ⟨false, (k : Int) + 1, kd, ky, by0⟩) := ⟨by0_ok w, (by dsimp only; omega), HKy.out⟩
            have HMay : Hid (mayAskP ⟨false, (k : Int) + 1, kd, ky, by0⟩ = true) := may_other k kd ky HKo.out
            have HAN : Hid (Ev.ok w ⟨true, (k : Int) + 1, 3, noKey, by0⟩) := ⟨HBN.out, (by dsimp only; omega), Nat.zero_le _⟩
            have HA4 : Hid (Ev.ok w ⟨true, (k : Int) + 1, 4, noKey, by0⟩) := ⟨by0_ok w, (by dsimp only; omega), Nat.zero_le _⟩
            go_wp2_with (first | (refine wpList_load_mid rfl 38 _ rfl b1 (o1 + k * 4) rfl xs d HR1.out hd1 hd2 (by rw [szAk, HXS.out.2]) ?_) | (refine wpList_store_all rfl 38 _ _ rfl 4 wr.heap.size (acell ak0) xs rfl rfl (by exact Lv.new wr _ _) szAk rfl HXS.out.2 HO1.out ?_; intro u1 hl1 k1; have HKu : Hid (Kp (fun _ => False) wr u1) := ((Kp.refl (fun _ => False) wr).alloc _).trans k1 (fun b hb e => by omega); have HUl : Hid (wr.heap.size < u1.heap.size) := hl1.lt (by rw [HXS.out.2]; decide); have c1 : u1.cell? ⟨wr.heap.size, 1, none⟩ = some (.int .i64 zk) := hl1.cell (j := 1) HX4.out.1; have f1 := hl1.fz (j := 1) (by rw [HXS.out.2]; decide); obtain ⟨e1, e2, e3, f3, g1, g2, g3, HV2, HV3⟩ := ak_sets hl1 HXS.out.2 HX4.out.1 HX4.out.2.1 HX4.out.2.2 kd; clear hl1 k1) | (at_builtin; refine wpList_app_e (w0 := w) (v := ((u1.setCell ⟨wr.heap.size, 1, none⟩ (.int .i64 kd)).setCell ⟨wr.heap.size, 3, none⟩ (.slice none 0 0))) (es := es) (HR.out.keep (HKu.out.trans HV3 (fun b hb e => by omega))) ⟨false, (k : Int) + 1, kd, ky, by0⟩ HEo.out (by have := HE9.out; omega) rfl _ _ rfl rfl u1.heap.size (by simp) rfl ?_; intro q2 cj2 w3 hr3 k3; have HR3 : Hid (Re w w3 (.slice q2 (es.length + 1) cj2) (es ++ [⟨false, (k : Int) + 1, kd, ky, by0⟩])) := hr3; have z1 : (w3.alloc (.cells #[.bool true, .int .i64 ((k : Int) + 1), .int .i64 1, .string ⟨#[]⟩, .slice none 0 0] 29)).cell? ⟨wr.heap.size, 1, none⟩ = some (.int .i64 kd) := ((Kp.refl (fun _ => False) w3).alloc _).cellv (k3.cellv g1 (fun e => sv_own HR.out HM.out (b := 0) e)) id; have z2 : (w3.alloc (.cells #[.bool true, .int .i64 ((k : Int) + 1), .int .i64 1, .string ⟨#[]⟩, .slice none 0 0] 29)).cell? ⟨wr.heap.size, 2, none⟩ = some (.string ky) := ((Kp.refl (fun _ => False) w3).alloc _).cellv (k3.cellv g2 (fun e => sv_own HR.out HM.out (b := 0) e)) id; have HS3 : Hid (Sm w w3 m1 m2 (2 * k) st B) := sv_keep HSm.out HR.out trivial HKu.out HV3 k3; have hlk1 := (HS3.out.keep ((Kp.refl (fun _ => False) w3).alloc (.cells #[.bool true, .int .i64 ((k : Int) + 1), .int .i64 1, .string ⟨#[]⟩, .slice none 0 0] 29)) id id).look1 ky HKy.out; rw [← HZS.out] at hlk1; clear hr3 k3) | (at_builtin; refine wpList_app_e (w0 := w) (v := (w3.alloc (.cells #[.bool true, .int .i64 ((k : Int) + 1), .int .i64 3, .string ⟨#[]⟩, .slice none 0 0] 29))) (es := es ++ [⟨false, (k : Int) + 1, kd, ky, by0⟩]) (HR3.out.keep ((Kp.refl _ _).alloc _)) ⟨true, (k : Int) + 1, 3, noKey, by0⟩ HAN.out (by rw [List.length_append]; have := HE9.out; have := HKs.out; simp; omega) rfl _ _ rfl rfl (w3.heap.size + 1) (by simp) rfl ?_; intro q4 cj4 w4 hr4 k4; have HR4 : Hid (Re w w4 _ ((es ++ [⟨false, (k : Int) + 1, kd, ky, by0⟩]) ++ [⟨true, (k : Int) + 1, 3, noKey, by0⟩])) := hr4; have HS4 : Hid (Sm w w4 m1 m2 (2 * k) st B) := sv_keep2 HS3.out HR3.out k4; have HSrv : Hid (∃ cs', cs'.length = cs.length + 1 ∧ Srv ((es ++ [⟨false, (k : Int) + 1, kd, ky, by0⟩]) ++ [⟨true, (k : Int) + 1, 3, noKey, by0⟩]) cs' st (fun s => (B s).xs)) := (HSv.out.miss HE9.out ky _ kd HKo.out HID.out HZ.out 3 (Or.inl rfl)); clear hr4 k4) | (at_builtin; refine wpList_app_e (w0 := w) (v := (w3.alloc (.cells #[.bool true, .int .i64 ((k : Int) + 1), .int .i64 4, .string ⟨#[]⟩, .slice none 0 0] 29))) (es := es ++ [⟨false, (k : Int) + 1, kd, ky, by0⟩]) (HR3.out.keep ((Kp.refl _ _).alloc _)) ⟨true, (k : Int) + 1, 4, noKey, by0⟩ HA4.out (by rw [List.length_append]; have := HE9.out; have := HKs.out; simp; omega) rfl _ _ rfl rfl (w3.heap.size + 1) (by simp) rfl ?_; intro q4 cj4 w4 hr4 k4; have HR4 : Hid (Re w w4 _ ((es ++ [⟨false, (k : Int) + 1, kd, ky, by0⟩]) ++ [⟨true, (k : Int) + 1, 4, noKey, by0⟩])) := hr4; have HS4 : Hid (Sm w w4 m1 m2 (2 * k) st B) := sv_keep2 HS3.out HR3.out k4; have HSrv : Hid (∃ cs', cs'.length = cs.length + 1 ∧ Srv ((es ++ [⟨false, (k : Int) + 1, kd, ky, by0⟩]) ++ [⟨true, (k : Int) + 1, 4, noKey, by0⟩]) cs' st (fun s => (B s).xs)) := (HSv.out.miss HE9.out ky _ kd HKo.out HID.out HZ.out 4 (Or.inr rfl)); clear hr4 k4))
            · go_roundg (n - (k + 1))
              case rel => exact ⟨k + 1, q2, cj2, es.length + 1, _, _, st, B, by omega, by omega, rfl, by first | rw [HK1.out] | rfl | go_num, rfl, by show _ = _; simp, HR3, HSv.out.lost ⟨false, (k : Int) + 1, kd, ky, by0⟩ rfl HID.out HMay.out HE9.out, HS3.out.mono (by omega), ⟨by have := HKs.out; simp; omega, by have := HKs.out; simp; omega⟩⟩
              case measure => omega
            all_goals
              obtain ⟨cs', hc', hs'⟩ := HSrv.out
              go_roundg (n - (k + 1))
              case rel =>
                have hr := HR4.out
                rw [show (es ++ [(⟨false, (k : Int) + 1, kd, ky, by0⟩ : Ev)]).length = es.length + 1 by simp] at hr
                exact ⟨k + 1, q4, cj4, es.length + 1 + 1, _, cs', st, B, by omega, by omega, rfl, by first | rw [HK1.out] | rfl | go_num, rfl, by show _ = _; simp, hr, hs', HS4.out.mono (by omega), ⟨by have := HKs.out; omega, by have := HKs.out; simp; omega⟩⟩
              case measure => omega

      · go_wp2_with (first | (refine wpList_load_mid rfl 38 _ rfl b1 (o1 + k * 4) rfl xs d HR1.out hd1 hd2 (by rw [szAk, HXS.out.2]) ?_) | (refine wpList_store_all rfl 38 _ _ rfl 4 wr.heap.size (acell ak0) xs rfl rfl (by exact Lv.new wr _ _) szAk rfl HXS.out.2 HO1.out ?_; intro u1 hl1 k1; have HKu : Hid (Kp (fun _ => False) wr u1) := ((Kp.refl (fun _ => False) wr).alloc _).trans k1 (fun b hb e => by omega); clear hl1 k1))
        go_ret
        refine ⟨q, cj, es, (by rw [← HM.out]; rfl), ?_, by have := HKs.out; omega, cs, st, _, HSv.out⟩
        have hr := HR.out
        rw [HM.out] at hr
        exact hr.keep HKu.out
    · go_wp2
      go_ret
      refine ⟨q, cj, es, (by rw [← HM.out]; rfl), ?_, by have := HKs.out; omega, cs, st, _, HSv.out⟩
      have hr := HR.out
      rw [HM.out] at hr
      exact hr
end Go.Proofs.Ytbbgplnenbkfeaa
