/- replay: a stock out of records; Open of a plate that had a shelf. -/
import Derived.Test.YtippipeebkkghaaGreatDoorJrc
import Derived.Test.YtippipeebkkghaaGreatDoorIq
import Derived.Handy
import Derived.StillTailTactics
namespace Go.Proofs.YtippipeebkkghaaGreatDoor
set_option linter.unusedVariables false
set_option linter.unusedSimpArgs false
open Go.RowKit Go.Deep Go.Maps

/-- texts, as a slice that can be read, in blocks below B -/
def Tq (w : World) (B : Nat) (p : Option Addr) (recs : List (List Nat)) : Prop := ∀ j, j < recs.length → ∃ g o q c, p = some ⟨g, o, none⟩ ∧ g < B ∧ w.cell? ⟨g, o + j, none⟩ = some (.slice q (recs.getD j []).length c) ∧ (recs.getD j []).length ≤ c ∧ Rb w q (recs.getD j []).length (recs.getD j []) ∧ ∀ a, q = some a → a.block < B
theorem Tq.keep {S : Nat → Prop} {w w' : World} {B : Nat} {p : Option Addr} {recs : List (List Nat)} (h : Tq w B p recs) (k : Kp S w w') (hS : ∀ b, b < B → ¬ S b) : Tq w' B p recs := fun j hj => by
  obtain ⟨g, o, q, c, e, hg, hc, hl, hr, hb⟩ := h j hj
  exact ⟨g, o, q, c, e, hg, k.cellv hc (hS g hg), hl, hr.keep k (fun a ha _ => hS _ (hb a ha)), hb⟩
theorem Rw.tq {w : World} {base : Nat} {v : Value} {recs : List (List Nat)} (h : Rw w base v recs) (hx : ∀ ys ∈ recs, ∀ x ∈ ys, x < 256) : ∃ p c, v = .slice p recs.length c ∧ Tq w w.heap.size p recs := by
  obtain ⟨vs, h1, h2, h3⟩ := h
  rcases Joins.ownsRow_forms h1 with ⟨e1, e2⟩ | ⟨g, cap, e⟩
  · exact ⟨none, 0, by rw [e1, e2], fun j hj => by omega⟩
  · refine ⟨_, cap, e, fun j hj => ?_⟩
    have hu : vs[j]? = some (vs[j]'(by omega)) := List.getElem?_eq_getElem _
    have hxj : recs[j]? = some recs[j] := List.getElem?_eq_getElem hj
    have hd : recs.getD j [] = recs[j] := by rw [List.getD_eq_getElem?_getD, hxj]; rfl
    obtain ⟨o, _⟩ := h3 j _ _ hxj hu
    obtain ⟨q, c, eu, hl, hr, hb⟩ := o.rb (hx _ (List.getElem_mem hj))
    have hg : g < w.heap.size := (ownBlock_lt h1 (by rw [e]; rfl)).2
    rw [e] at h1
    have k0 := h1.cells (g := g) rfl j _ hu
    rw [Addr.add_mid, Nat.zero_add] at k0
    rw [eu] at k0
    rw [hd]
    exact ⟨g, 0, q, c, rfl, hg, by rw [Nat.zero_add]; exact k0, hl, hr, fun a ha => (ownBlock_lt o (hb a ha).2).2⟩

set_option maxRecDepth 100000 in
set_option maxHeartbeats 3200000 in
theorem replay_ok {w : World} {Z : Nat → Prop} {sh mp g : Nat} {h : List Rc} {p : Option Addr} {c B : Nat} (x : Sk w Z sh mp g []) (hcn : ∀ r ∈ h, Cn r) (hn : h.length ≤ 1000) (ht : Tq w B p (h.map wrS)) (hB : B ≤ sh ∧ B ≤ mp) (hz : ∀ b, w.heap.size ≤ b → Z b) (hd : sh ≠ mp ∧ ¬ Z sh ∧ ¬ Z mp) :
    Calls Tryz.prog 30 #[.pointer (some ⟨sh, 0, none⟩), .slice p h.length c] w fun e w' => e = .returned .nilIface ∧ Kp (fun b => b = sh ∨ b = mp) w w' ∧ Sk w' Z sh mp g h := by
  have HX : Hid (Sk w Z sh mp g []) := x
  obtain ⟨n, hnn⟩ : ∃ n, n = h.length := ⟨_, rfl⟩
  have HN : Hid (n = h.length ∧ n ≤ 1000) := ⟨hnn, by omega⟩
  have HT : Hid (Tq w B p (h.map wrS)) := ht
  have HCn : Hid (∀ r ∈ h, Cn r) := hcn
  have HD : Hid ((B ≤ sh ∧ B ≤ mp) ∧ (∀ b, w.heap.size ≤ b → Z b) ∧ (sh ≠ mp ∧ ¬ Z sh ∧ ¬ Z mp)) := ⟨hB, hz, hd⟩
  rw [← hnn]
  clear x hcn hn ht hB hz hd hnn
  go_enter Tryz.func30, Tryz.ntmps30
  go_wp2
  go_loopg [11] n (fun gk iv wr => ∃ j : Nat, j ≤ n ∧ gk = n - j ∧ iv = .int .i64 (j : Int) ∧ Hid (Kp (fun b => b = sh ∨ b = mp) w wr ∧ Sk wr Z sh mp g (h.take j)))
  case atStart => exact ⟨0, Nat.zero_le _, rfl, rfl, Kp.refl _ _, by rw [List.take_zero]; exact HX.out⟩
  case round =>
    obtain ⟨j, hj, rfl, rfl, HK⟩ := hrel
    by_cases hlt : j < n
    · have hlt2 : (j : Int) < (n : Int) := by omega
      have hjh : j < h.length := by rw [← HN.out.1]; exact hlt
      obtain ⟨g0, o0, q, cq, rfl, hg0, hc0, hl0, hr0, hb0⟩ := (HT.out.keep HK.out.1 (fun b hb e => by have := HD.out.1; omega)) j (by rw [List.length_map]; exact hjh)
      have hgd : (h.map wrS).getD j [] = wrS h[j] := by rw [List.getD_eq_getElem?_getD, List.getElem?_map, List.getElem?_eq_getElem hjh]; rfl
      rw [hgd] at hc0 hl0 hr0
      obtain ⟨r, hr⟩ : ∃ r, r = h[j] := ⟨_, rfl⟩
      rw [← hr] at hc0 hl0 hr0
      have hrc : Cn r := by rw [hr]; exact HCn.out _ (List.getElem_mem hjh)
      have HRc : Hid (Cn r) := hrc
      have HRO : Hid (Calls _ _ _ wr _) := recordOf_ok hrc hr0 hl0
      have HTk : Hid (h.take (j + 1) = h.take j ++ [r]) := by
        show _ = _
        rw [List.take_add_one, List.getElem?_eq_getElem hjh, hr]
        rfl
      have HJ : Hid (j < n) := hlt
      have hw1 : wrap64 ((j : Int) + 1) = ((j + 1 : Nat) : Int) := by have := HN.out.2; unfold wrap64; omega
      obtain ⟨L, hL⟩ : ∃ L, L = (wrS r).length := ⟨_, rfl⟩
      rw [← hL] at hc0 HRO
      clear hg0 hl0 hr0 hb0 hgd hr hrc hjh hlt hL
      go_wp2_with fail
      refine HRO.out.mono ?_
      rintro e9 w1 ⟨pb, cb, rfl, k1, rb1, hp1⟩
      have HK1 : Hid (Kp (fun _ => False) wr w1 ∧ Rb w1 pb r.b.length r.b ∧ ∀ a, pb = some a → wr.heap.size ≤ a.block) := ⟨k1, rb1, hp1⟩
      clear k1 rb1 hp1 HRO
      go_upto_region 7 with fail
      obtain ⟨w2, hw2⟩ : ∃ z, z = w1.alloc (.cells #[.int .i64 (r.k : Int), .int .i64 (r.n : Int), .int .i64 (r.i : Int), .int .i64 (r.e : Int), .slice pb r.b.length cb] 122) := ⟨_, rfl⟩
      rw [← hw2]
      have k2 : Kp (fun _ => False) w1 w2 := by rw [hw2]; exact (Kp.refl _ _).alloc _
      obtain ⟨qx, hqx⟩ : ∃ x, x = w1.heap.size := ⟨_, rfl⟩
      rw [← hqx]
      have l2 : Lv w2 qx [.int .i64 (r.k : Int), .int .i64 (r.n : Int), .int .i64 (r.i : Int), .int .i64 (r.e : Int), .slice pb r.b.length cb] := by rw [hw2, hqx]; exact Lv.new w1 _ _
      have kd : Kp (fun _ => False) w2 { w2 with drawn := w2.drawn + 1 } := (Kp.refl _ _).drew
      have l3 := l2.keep kd id
      refine wp_region_still_tail 4 (by kernel_rfl) (by kernel_rfl) ?_
      obtain ⟨w3, hw3⟩ : ∃ x, x = { w2 with drawn := w2.drawn + 1 } := ⟨_, rfl⟩
      rw [← hw3] at kd l3 ⊢
      have d0 := l3.cell (j := 0) rfl
      have d1 := l3.cell (j := 1) rfl
      have d2 := l3.cell (j := 2) rfl
      have d3 := l3.cell (j := 3) rfl
      have d4 := l3.cell (j := 4) rfl
      have kr3 : Kp (fun _ => False) wr w3 := (HK1.out.1.trans k2 (fun _ _ e => e)).trans kd (fun _ _ e => e)
      have HTa : Hid (Calls _ _ _ w3 _) := take_ok (HK.out.2.keep kr3 id id (fun _ _ => id)) r pb cb ((HK1.out.2.1.keep0 k2).keep0 kd) HRc.out.g (by rw [List.length_take]; have := HN.out; have := HJ.out; omega) (fun a ha => HD.out.2.1 _ (Nat.le_trans HK.out.1.size (HK1.out.2.2 a ha))) HD.out.2.2
      have HK3 : Hid (Kp (fun b => b = sh ∨ b = mp) w w3) := HK.out.1.trans kr3 (fun _ _ e => e.elim)
      clear kr3 hw3 kd l2 l3 k2 hw2 hqx HK1
      simp only [List.take_succ_cons, List.take_zero, List.drop_succ_cons, List.drop_zero]
      iterate 4 still_step
      refine wpStill_nil ?_
      clear d0 d1 d2 d3 d4
      go_wp2_with fail
      refine HTa.out.mono ?_
      rintro e9 w4 ⟨rfl, k4, s4⟩
      have HF4 : Hid (Kp (fun b => b = sh ∨ b = mp) w w4 ∧ Sk w4 Z sh mp g (h.take (j + 1))) := ⟨HK3.out.trans k4 (fun _ _ e => e), by rw [HTk.out]; exact s4⟩
      clear k4 s4 HTa HK3 HK
      go_wp2
      go_roundg (n - (j + 1))
      case rel => exact ⟨j + 1, HJ.out, rfl, by first | rw [hw1] | simp, HF4.out⟩
      case measure => have := HJ.out; omega
    · have hjn : j = n := by omega
      subst hjn
      have hlt2 : ¬ (j : Int) < (j : Int) := by omega
      have HF : Hid (Kp (fun b => b = sh ∨ b = mp) w wr ∧ Sk wr Z sh mp g h) := by
        have h9 := HK.out
        rw [List.take_of_length_le (Nat.le_of_eq HN.out.1.symm)] at h9
        exact h9
      clear HK HX
      go_wp2
      go_ret
      exact ⟨rfl, HF.out⟩

set_option maxRecDepth 100000 in
set_option maxHeartbeats 1600000 in
theorem sopen_any {w : World} {bp d m s q a b c e y : Nat} {hh : List Rc} {dur : List Nat} {T : Nat → Option (List Nat)} {rdW : Nat → List Nat} (h : Lc w bp d m s q a b c e y (hh.map wrS) dur T rdW) (hcn : ∀ r ∈ hh, Cn r) (hn : hh.length ≤ 1000) (ha : a < 1152921504606846976) (hb : b < 1152921504606846976) (ht : Turns w) :
    ∃ k, y ≤ k ∧ k ≤ hh.length ∧ Calls Tryz.prog 10 #[.pointer (some ⟨bp, 0, none⟩)] w fun e9 w' => ∃ sh mp g gf dur2 N, e9 = .returned (.tuple #[.pointer (some ⟨sh, 0, none⟩), .int .i64 0]) ∧ Kp (fun x => x = d ∨ x = m) w w' ∧ (w.heap.size ≤ sh ∧ w.heap.size ≤ mp ∧ w.heap.size ≤ g ∧ w.heap.size ≤ gf) ∧ N ≤ w'.heap.size ∧ Shf w' (fun x => N ≤ x) sh mp g bp d m gf s (a + 1) (b + 1) c e k dur2 (hh.take k) := by
  obtain ⟨k, hyk, hk, _, HOp⟩ := lc_open h ha hb ht
  rw [List.length_map] at hk
  refine ⟨k, hyk, hk, ?_⟩
  rw [← List.map_take] at HOp
  have HO : Hid (Calls _ _ _ w _) := HOp
  have HT : Hid (Turns w) := ht
  have HTd : Hid ((¬ (0 : Nat) = d ∧ ¬ (0 : Nat) = m) ∧ (0 : Nat) < w.heap.size ∧ bp < w.heap.size ∧ d < w.heap.size ∧ m < w.heap.size) := ⟨h.td, World.block_lt_of_cell? _ _ (ht 0 (by decide)), h.pt.lt, h.pt.row.lt, h.pt.mp.lt⟩
  have HCn : Hid ((∀ r ∈ hh.take k, Cn r) ∧ (hh.take k).length = k ∧ k ≤ 1000) := ⟨fun r hr => hcn r (List.mem_of_mem_take hr), by rw [List.length_take]; omega, by omega⟩
  have HIs : Hid (∀ u, Calls Tryz.prog 31 #[.nilIface, eno 70] u fun e w' => e = .returned (.bool false) ∧ w' = u) := fun u => is_nil 70 u
  have hmm : ∀ (t : TypeId) (w : World), (Instr.makeMap t none).run Tryz.prog w = .ok (.map (some w.heap.size)) (w.alloc (.map #[] 0)) := fun _ _ => rfl
  obtain ⟨hk2, hh2⟩ : ∃ l, l = hh.take k := ⟨_, rfl⟩
  rw [← hh2] at HO HCn ⊢
  clear h hcn hn ha hb ht hyk hk HOp hh2
  go_enter Tryz.func10, Tryz.ntmps10
  go_wp2_with fail
  refine HO.out.mono ?_
  rintro e9 w2 ⟨g, gf, v, dur2, rfl, k2, hg, hgf, r2, l2⟩
  obtain ⟨pv, cv, rfl, t2⟩ := r2.tq (fun ys hy x hx => by
    obtain ⟨r, hr, rfl⟩ := List.mem_map.1 hy
    exact wrS_b (HCn.out.1 r hr).g x hx)
  rw [List.length_map] at l2 ⊢
  obtain ⟨mp, hmp⟩ : ∃ x, x = w2.heap.size := ⟨_, rfl⟩
  obtain ⟨w3, hw3⟩ : ∃ y, y = w2.alloc (.map #[] 0) := ⟨_, rfl⟩
  have hm3 : Px3 w3 mp 0 (fun _ => none) := by rw [hw3, hmp]; exact Px3.made w2
  have k3 : Kp (fun _ => False) w2 w3 := by rw [hw3]; exact (Kp.refl _ _).alloc _
  obtain ⟨sh, hsh⟩ : ∃ x, x = w3.heap.size := ⟨_, rfl⟩
  obtain ⟨w4, hw4⟩ : ∃ y, y = w3.alloc (.cells #[.pointer (some ⟨g, 0, none⟩), .map (some mp), .int .i64 0] 97) := ⟨_, rfl⟩
  have s4 : Sk w4 (fun x => w4.heap.size ≤ x) sh mp g [] := by rw [hw4, hsh]; exact Sk.new w3 _ g mp hm3
  have k4 : Kp (fun _ => False) w3 w4 := by rw [hw4]; exact (Kp.refl _ _).alloc _
  have hz : w3.heap.size = w2.heap.size + 1 ∧ w4.heap.size = w3.heap.size + 1 := ⟨by rw [hw3]; simp, by rw [hw4]; simp⟩
  have k24 : Kp (fun _ => False) w2 w4 := k3.trans k4 (fun _ _ e => e)
  have hLen := HCn.out.2
  have HRe : Hid (Calls _ _ _ w4 _) := replay_ok (p := pv) (c := cv) s4 HCn.out.1 (by omega) (t2.keep k24 (fun _ _ e => e)) ⟨by omega, by omega⟩ (fun b hb => hb) ⟨by omega, by omega, by omega⟩
  rw [hLen.1] at HRe l2
  have HB2 := l2.blk
  have HFin : Hid (∀ w5, Kp (fun b => b = sh ∨ b = mp) w4 w5 → Sk w5 (fun x => w4.heap.size ≤ x) sh mp g hk2 → Kp (fun x => x = d ∨ x = m) w w5 ∧ (w.heap.size ≤ sh ∧ w.heap.size ≤ mp ∧ w.heap.size ≤ g ∧ w.heap.size ≤ gf) ∧ w4.heap.size ≤ w5.heap.size ∧ Shf w5 (fun x => w4.heap.size ≤ x) sh mp g bp d m gf s (a + 1) (b + 1) c e k dur2 hk2) := fun w5 k5 s5 => by
    obtain ⟨⟨t1, t2'⟩, t3, t4, t5, t6⟩ := HTd.out
    have z1 := k2.size
    refine ⟨k2.trans ((k24.mono (fun _ _ e => e.elim)).trans k5 (fun _ _ e => e)) (fun b hb9 e => by omega), ⟨by omega, by omega, by omega, by omega⟩, k5.size, ⟨⟨0, _, _, (l2.keep0 k24).keep k5 (fun e => by omega) (fun e => by omega) (fun e => by omega) (fun e => by omega) (fun e => by omega)⟩, s5, ?_, ⟨by omega, by omega, by omega⟩, fun x hx => ?_, ⟨by omega, by omega, by omega, by omega⟩, ⟨by omega, by omega⟩⟩⟩
    · exact fun j hj => k5.cellv (k24.cellv ((k2.cellv (HT.out j hj) (fun e => by rcases e with e | e; exact t1 e; exact t2' e))) id) (fun e => by
        have e' : (0 : Nat) = sh ∨ (0 : Nat) = mp := e
        omega)
    · rcases hx with rfl | rfl | rfl <;> exact ⟨by omega, by omega, by omega⟩
  rw [hLen.1]
  clear k2 l2 hm3 k3 s4 k4 hz hg hgf HO t2 r2 k24 HB2 hLen
  go_wp2_with fail
  have hsh1 : mp + 1 = sh := by rw [hsh, hw3, hmp]; simp
  rw [← hmp, ← hw3, hsh1, ← hw4]
  clear hmp hw3 hsh hsh1 hw4
  refine HRe.out.mono ?_
  rintro e9 w5 ⟨rfl, k5, s5⟩
  have HF : Hid _ := HFin.out w5 k5 s5
  clear k5 s5 HFin HRe
  go_wp2_with fail
  refine (HIs.out _).mono ?_
  rintro e9 w9 ⟨rfl, hw9⟩
  have hw8 := hw9.symm
  subst hw8
  clear hw9
  go_wp2_with fail
  go_ret2
  exact ⟨sh, mp, g, gf, dur2, _, rfl, HF.out⟩
end Go.Proofs.YtippipeebkkghaaGreatDoor
