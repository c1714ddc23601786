/- HistoryBegins (laid by scripts/mkvh.py). -/
import Derived.Test.YtbbgplnenbkfeaaVd
import Derived.Test.YtbbgplnenbkfeaaVf
import Derived.Test.YtbbgplnenbkfeaaVg
namespace Go.Proofs.Ytbbgplnenbkfeaa
set_option linter.unusedVariables false
set_option linter.unusedSimpArgs false
open Go.RowKit Go.Deep Go.Maps

/-- a journal in memory -/
structure Jn (w : World) (p : Option Addr) (n c : Nat) (es : List Ev) : Prop where
  l : es.length = n
  f : Fl w (fun _ => True) p (eflat es)
  o : ∀ e ∈ es, e.ok w
  s : n ≤ 60
  c : n ≤ c
theorem Jn.keep {w w' : World} {p : Option Addr} {n c : Nat} {es : List Ev} (h : Jn w p n c es) (k : Kp (fun _ => False) w w') : Jn w' p n c es :=
  ⟨h.l, h.f.keep k (fun _ _ => id), fun e he => (h.o e he).keep k, h.s, h.c⟩
theorem fl_part {w : World} {Z : Nat → Prop} {p : Option Addr} {a b : List Value} (h : Fl w Z p (a ++ b)) : Fl w Z p a := fun j u hj => h j u (by rw [List.getElem?_append_left (List.getElem?_eq_some_iff.1 hj).1]; exact hj)
theorem Jn.cut {w : World} {p : Option Addr} {n c : Nat} {es : List Ev} (h : Jn w p n c es) (m : Nat) (hm : m ≤ n) : Jn w p m c (es.take m) := by
  have hs := h.s
  have hc := h.c
  have hl := h.l
  refine ⟨by rw [List.length_take]; omega, ?_, fun e he => h.o e (List.mem_of_mem_take he), by omega, by omega⟩
  have hf := h.f
  rw [← List.take_append_drop m es, eflat_append] at hf
  exact fl_part hf
theorem Jn.check {w : World} {p : Option Addr} {n c : Nat} {es : List Ev} (h : Jn w p n c es) : Calls Try.prog 12 #[.slice p n c] w fun r w' => r = .returned (.bool (chk es)) ∧ Kp (fun _ => False) w w' := by
  have := check_ok (fun _ => True) p c es w h.f h.o (by have := h.l; have := h.s; omega)
  rw [h.l] at this
  exact this

theorem own_cap {w : World} {base sz n m cap : Nat} {e : TypeId} {q : Option Addr} {cells : List Value} (h : w.ownsRow base e sz (.slice q m cap) n cells) : m ≤ cap := by
  rcases h.2 with ⟨e1, e2⟩ | ⟨g, c, cur, e1, _, _, e2, _⟩
  · cases e1; omega
  · cases e1; exact e2
/-- one round of the law -/
theorem cut_num (nn : Int) (n : Nat) : ∃ m : Nat, m ≤ n ∧ (IntKind.u64.wrap nn).tmod ((n : Int) + 1) = (m : Int) := by
  have h9 : 0 ≤ IntKind.u64.wrap nn := by
    unfold IntKind.wrap
    simp [IntKind.signed, IntKind.bits]
    exact Int.emod_nonneg _ (by decide)
  have h0 : 0 ≤ (IntKind.u64.wrap nn).tmod ((n : Int) + 1) := Int.tmod_nonneg _ h9
  have h2 := Int.tmod_lt_of_pos (IntKind.u64.wrap nn) (show (0 : Int) < (n : Int) + 1 by omega)
  exact ⟨((IntKind.u64.wrap nn).tmod ((n : Int) + 1)).toNat, by omega, by omega⟩

set_option maxRecDepth 100000 in
set_option maxHeartbeats 6400000 in
theorem historyBegins_walk (p : Option Addr) (n c : Nat) (es : List Ev) (pa : Option Addr) (na ca : Nat) (la : List Ak) (lost nn : Int) (w : World) (h : es.length = n ∧ Fl w (fun _ => True) p (eflat es) ∧ (∀ x ∈ es, x.ok w) ∧ (n : Int) ≤ 9223372036854775807 ∧ n ≤ c) (ha : la.length = na ∧ Fl w (fun _ => True) pa (aflat la) ∧ (∀ x ∈ la, x.ok w) ∧ (na : Int) ≤ 9223372036854775807 ∧ na ≤ ca) (hs : (Lit.int .i64 nn).wf = true) :
    Calls Try.prog 7 #[.slice p n c, .slice pa na ca, .int .u64 lost, .int .i64 nn] w fun e w' => e = .returned (.bool true) ∧ Kp (fun _ => False) w w' := by
  have HS : Hid (∀ u, Kp (fun _ => False) w u → Calls Try.prog 15 #[.slice pa na ca, .int .u64 lost] u fun e w' => ∃ q n2 c2, e = .returned (.slice q n2 c2) ∧ Kp (fun _ => False) u w' ∧ ∃ es2, Jn w' q n2 c2 es2 ∧ chk es2 = true) := fun u ku => by
    refine (served_ok pa na ca la lost u ⟨ha.1, ha.2.1.keep ku (fun _ _ => id), fun x hx => (ha.2.2.1 x hx).keep ku, ha.2.2.2⟩).mono ?_
    rintro e w' ⟨q, cj, es2, rfl, hr, hl, cs, st, bs, hv⟩
    obtain ⟨q9, c9, e9, hfl⟩ := own_fl hr.o
    have hcap := own_cap hr.o
    cases e9
    exact ⟨_, _, _, rfl, hr.k, es2, ⟨rfl, fun j u hj => by obtain ⟨b, o, e1, e2, e3⟩ := hfl j u hj; exact ⟨b, o, e1, trivial, e3⟩, fun e he => (hr.c e he).keep hr.k, hl, hcap⟩, hv.right (by omega)⟩
  have hnw : -9223372036854775808 ≤ nn ∧ nn ≤ 9223372036854775807 := by
    have h9 : IntKind.i64.min ≤ nn ∧ nn ≤ 9223372036854775807 := by simpa [Lit.wf] using hs
    exact ⟨h9.1, h9.2⟩
  obtain ⟨m, hm⟩ : ∃ m : Nat, (m : Int) = if (n : Int) < 30 then (n : Int) else 30 := by
    by_cases q : (n : Int) < 30
    · exact ⟨n, by rw [if_pos q]⟩
    · exact ⟨30, by rw [if_neg q]; rfl⟩
  have hmn : m ≤ n ∧ m ≤ 30 := by
    split at hm <;> omega
  have HJ0 : Hid (Jn w p m c (es.take m)) := ⟨by rw [List.length_take]; omega, by
    have hf := h.2.1
    rw [← List.take_append_drop m es, eflat_append] at hf
    exact fl_part hf, fun e he => h.2.2.1 e (List.mem_of_mem_take he), by omega, by omega⟩
  have hmc : (m : Int) ≤ (c : Int) := by have := HJ0.out.c; omega
  have HNw : Hid (-9223372036854775808 ≤ nn ∧ nn ≤ 9223372036854775807) := hnw
  have HM : Hid ((m : Int) = if (n : Int) < 30 then (n : Int) else 30) := hm
  have HMc : Hid ((m : Int) ≤ (c : Int)) := hmc
  have kd : Hid (Kp (fun _ => False) w w.drew) := (Kp.refl _ _).drew
  clear h ha hs hm hmn hmc hnw
  go_enter Try.func7, Try.ntmps7
  go_wp2_with fail
  refine bg_region ⟨by kernel_rfl, by kernel_rfl, by kernel_rfl, by kernel_rfl, by kernel_rfl, by kernel_rfl, by kernel_rfl, by kernel_rfl, by kernel_rfl, by kernel_rfl, by kernel_rfl, by kernel_rfl, by kernel_rfl, by kernel_rfl, by kernel_rfl, by kernel_rfl, by kernel_rfl, by kernel_rfl⟩ p n c m HM.out HMc.out pa na ca lost (fun d _ _ _ _ h => by cases d <;> exact h) (by rfl) (by rfl) (by rfl) (by rfl) trivial (fun q n2 c2 w9 => Kp (fun _ => False) w.drew w9 ∧ ∃ es2, Jn w9 q n2 c2 es2 ∧ chk es2 = true) (HS.out _ kd.out) ?_
  rintro q n2 c2 w9 ⟨k9, es2, j2, hc2⟩
  simp only [Act.put, List.setIfInBounds_toArray, List.set_cons_succ, List.set_cons_zero]
  have HK9 : Hid (Kp (fun _ => False) w w9) := kd.out.trans k9 (fun _ _ e => e)
  obtain ⟨wa, hwa⟩ : ∃ x, x = w9.alloc (.cells #[.slice p m c, .slice q n2 c2] 22) := ⟨_, rfl⟩
  have hka : Kp (fun _ => False) w9 wa := by rw [hwa]; exact (Kp.refl _ _).alloc _
  have HL : Hid (Lv wa w9.heap.size [.slice p m c, .slice q n2 c2]) := by rw [hwa]; exact Lv.new w9 _ _
  have HKa : Hid (Kp (fun _ => False) w wa) := HK9.out.trans hka (fun _ _ e => e)
  have HJ1 : Hid (Jn wa p m c (es.take m)) := HJ0.out.keep HKa.out
  have HJ2 : Hid (Jn wa q n2 c2 es2) := j2.keep hka
  have HC2 : Hid (chk es2 = true) := hc2
  rw [← hwa]
  obtain ⟨g, hg⟩ : ∃ g, g = w9.heap.size := ⟨_, rfl⟩
  rw [← hg] at HL ⊢
  have HR : Hid (∀ (u : World) (p : Option Addr) (n c : Nat) (es : List Ev), Kp (fun _ => False) wa u → Jn wa p n c es → Calls Try.prog 12 #[.slice p n c] u fun r w' => r = .returned (.bool (chk es)) ∧ Kp (fun _ => False) u w') := fun u p n c es ku hj => (hj.keep ku).check
  clear k9 j2 hc2 hka hwa hg HM HMc HK9 HJ0 kd
  go_wp2_with fail
  go_loopg [21] 2 (fun gk i wr => ∃ k : Nat, k ≤ 2 ∧ gk = 2 - k ∧ i = .int .i64 k ∧ Hid (Kp (fun _ => False) wa wr))
  case atStart => exact ⟨0, by omega, rfl, rfl, Kp.refl _ _⟩
  case round =>
    obtain ⟨k, hk, rfl, rfl, HK⟩ := hrel
    by_cases hlt : k < 2
    · obtain ⟨px, nx, cx, ex, hcell, hjx⟩ : ∃ px nx cx ex, wr.cell? ⟨g, k, none⟩ = some (.slice px nx cx) ∧ Jn wa px nx cx ex := by
        rcases (show k = 0 ∨ k = 1 by omega) with rfl | rfl
        · exact ⟨p, m, c, _, HK.out.cellv (HL.out.cell (j := 0) rfl) id, HJ1.out⟩
        · exact ⟨q, n2, c2, _, HK.out.cellv (HL.out.cell (j := 1) rfl) id, HJ2.out⟩
      have hlt2 : (k : Int) < 2 := by omega
      have HJx : Hid (Jn wa px nx cx ex) := hjx
      have HCx : Hid (Calls _ _ _ wr _) := HR.out wr px nx cx ex HK.out hjx
      obtain ⟨mx, hmx, hmx2⟩ := cut_num nn nx
      have hmx9 : (mx : Int) ≤ 60 := by have := hjx.s; omega
      have HCy : Hid (∀ u, Kp (fun _ => False) wr u → Calls _ _ _ u _) := fun u ku => HR.out u px mx cx (ex.take mx) (HK.out.trans ku (fun _ _ e => e)) (hjx.cut mx hmx)
      have HT : Hid (chk ex = true → chk (ex.take mx) = true) := fun hc => chk_take ex.length ex mx (by omega) (by have := hjx.l; have := hjx.s; omega) hc
      have hnx : (nx : Int) ≤ 60 := by have := hjx.s; omega
      have hmx3 : (mx : Int) ≤ (cx : Int) := by have := hjx.c; omega
      clear hjx HR
      cases hce : chk ex with
      | false =>
        rw [hce] at HCx
        clear hce
        go_wp2_with (go_at_call 12; refine HCx.out.mono ?_; rintro e u4 ⟨rfl, k4⟩)
        go_roundg (2 - (k + 1))
        case rel => exact ⟨k + 1, by omega, rfl, by first | rfl | go_num, HK.out.trans k4 (fun _ _ e => e)⟩
        case measure => omega
      | true =>
        rw [HT.out hce] at HCy
        rw [hce] at HCx
        clear hce HT
        go_wp2_with (go_at_call 12; first
          | (refine HCx.out.mono ?_; rintro e u4 ⟨rfl, k4⟩; have HK4 : Hid (Kp (fun _ => False) wr u4) := k4; clear HCx k4)
          | (refine (HCy.out _ HK4.out).mono ?_; rintro e u5 ⟨rfl, k5⟩))
        go_roundg (2 - (k + 1))
        case rel => exact ⟨k + 1, by omega, rfl, by first | rfl | go_num, (HK.out.trans HK4.out (fun _ _ e => e)).trans k5 (fun _ _ e => e)⟩
        case measure => omega
    · have hlt2 : ¬ (k : Int) < 2 := by omega
      have HKw : Hid (Kp (fun _ => False) w wr) := HKa.out.trans HK.out (fun _ _ e => e)
      clear HR HJ1 HJ2
      go_wp2_with fail
      refine (HS.out wr HKw.out).mono ?_
      rintro e u1 ⟨q5, n5, c5, rfl, k5, es5, j5, hc5⟩
      have HC5 : Hid (Calls _ _ _ u1 _) := j5.check
      rw [hc5] at HC5
      have HK5 : Hid (Kp (fun _ => False) w u1) := HKw.out.trans k5 (fun _ _ e => e)
      clear j5 hc5 k5
      go_wp2_with fail
      refine HC5.out.mono ?_
      rintro e u2 ⟨rfl, k6⟩
      have HK6 : Hid (Kp (fun _ => False) w u2) := HK5.out.trans k6 (fun _ _ e => e)
      clear HC5 k6
      go_wp2
      go_ret
      exact ⟨rfl, HK6.out⟩
end Go.Proofs.Ytbbgplnenbkfeaa
