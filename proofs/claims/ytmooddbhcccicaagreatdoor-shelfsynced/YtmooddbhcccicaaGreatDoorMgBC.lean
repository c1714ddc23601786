/- Texts of this proof, joined: Jrd, Ir, In. -/
import Derived.Test.YtmooddbhcccicaaGreatDoorMgAZ
import Derived.Test.YtmooddbhcccicaaGreatDoorMgBB
import Derived.Handy
import Derived.StillTailTactics
import Derived.Test.YtmooddbhcccicaaGreatDoorMgAY
import Derived.Shelf.AbstractIn
import Derived.RangeFuncSeq
import Derived.RangeFuncBox
import Derived.RangeFuncLeaves
import Derived.RangeFuncNested
import Derived.Sort.MapsRangeIn
import Derived.Shelf.SlIterI.Sorted
import Derived.WalkKit
import Derived.OwnWalkIn
import Derived.TacticsInMore
import Derived.RegionIn
import Derived.LoopNIn
import Derived.LoopIn
/- replay: a stock out of records; Open of a plate that had a shelf. -/
namespace Go.Proofs.YtmooddbhcccicaaGreatDoor
set_option linter.unusedVariables false
set_option linter.unusedSimpArgs false
open Go.RowKit Go.Deep Go.Maps

/-- texts, as a slice that can be read, in blocks below B -/
def Tq (w : World) (B : Nat) (p : Option Addr) (recs : List (List Nat)) : Prop := ∀ j, j < recs.length → ∃ g o q c, p = some ⟨g, o, none⟩ ∧ g < B ∧ w.cell? ⟨g, o + j, none⟩ = some (.slice q (recs.getD j []).length c) ∧ (recs.getD j []).length ≤ c ∧ Rb w q (recs.getD j []).length (recs.getD j []) ∧ ∀ a, q = some a → a.block < B
theorem Tq.keep {S : Nat → Prop} {w w' : World} {B : Nat} {p : Option Addr} {recs : List (List Nat)} (h : Tq w B p recs) (k : Kp S w w') (hS : ∀ b, b < B → ¬ S b) : Tq w' B p recs := fun j hj => by
  obtain ⟨g, o, q, c, e, hg, hc, hl, hr, hb⟩ := h j hj
  exact ⟨g, o, q, c, e, hg, k.cellv hc (hS g hg), hl, hr.keep k (fun a ha _ => hS _ (hb a ha)), hb⟩
theorem Rw.tq {w : World} {base : Nat} {v : Value} {recs : List (List Nat)} (h : Rw w base v recs) (hx : ∀ ys ∈ recs, ∀ x ∈ ys, x < 256) : ∃ p c, v = .slice p recs.length c ∧ Tq w w.heap.size p recs := by
  obtain ⟨vs, h1, h2, h3⟩ := h
  rcases Joins.ownsRow_forms h1 with ⟨e1, e2⟩ | ⟨g, cap, e⟩
  · exact ⟨none, 0, by rw [e1, e2], fun j hj => by omega⟩
  · refine ⟨_, cap, e, fun j hj => ?_⟩
    have hu : vs[j]? = some (vs[j]'(by omega)) := List.getElem?_eq_getElem _
    have hxj : recs[j]? = some recs[j] := List.getElem?_eq_getElem hj
    have hd : recs.getD j [] = recs[j] := by rw [List.getD_eq_getElem?_getD, hxj]; rfl
    obtain ⟨o, _⟩ := h3 j _ _ hxj hu
    obtain ⟨q, c, eu, hl, hr, hb⟩ := o.rb (hx _ (List.getElem_mem hj))
    have hg : g < w.heap.size := (ownBlock_lt h1 (by rw [e]; rfl)).2
    rw [e] at h1
    have k0 := h1.cells (g := g) rfl j _ hu
    rw [Addr.add_mid, Nat.zero_add] at k0
    rw [eu] at k0
    rw [hd]
    exact ⟨g, 0, q, c, rfl, hg, by rw [Nat.zero_add]; exact k0, hl, hr, fun a ha => (ownBlock_lt o (hb a ha).2).2⟩

set_option maxRecDepth 100000 in
set_option maxHeartbeats 3200000 in
theorem replay_ok {w : World} {Z : Nat → Prop} {sh mp g : Nat} {h : List Rc} {p : Option Addr} {c B : Nat} (x : Sk w Z sh mp g []) (hcn : ∀ r ∈ h, Cn r) (hn : h.length ≤ 1000) (ht : Tq w B p (h.map wrS)) (hB : B ≤ sh ∧ B ≤ mp) (hz : ∀ b, w.heap.size ≤ b → Z b) (hd : sh ≠ mp ∧ ¬ Z sh ∧ ¬ Z mp) :
    Calls Tryz.prog 56 #[.pointer (some ⟨sh, 0, none⟩), .slice p h.length c] w fun e w' => e = .returned .nilIface ∧ Kp (fun b => b = sh ∨ b = mp) w w' ∧ Sk w' Z sh mp g h := by
  have HX : Hid (Sk w Z sh mp g []) := x
  obtain ⟨n, hnn⟩ : ∃ n, n = h.length := ⟨_, rfl⟩
  have HN : Hid (n = h.length ∧ n ≤ 1000) := ⟨hnn, by omega⟩
  have HT : Hid (Tq w B p (h.map wrS)) := ht
  have HCn : Hid (∀ r ∈ h, Cn r) := hcn
  have HD : Hid ((B ≤ sh ∧ B ≤ mp) ∧ (∀ b, w.heap.size ≤ b → Z b) ∧ (sh ≠ mp ∧ ¬ Z sh ∧ ¬ Z mp)) := ⟨hB, hz, hd⟩
  rw [← hnn]
  clear x hcn hn ht hB hz hd hnn
  go_enter Tryz.func56, Tryz.ntmps56
  go_wp2
  go_loopg [11] n (fun gk iv wr => ∃ j : Nat, j ≤ n ∧ gk = n - j ∧ iv = .int .i64 (j : Int) ∧ Hid (Kp (fun b => b = sh ∨ b = mp) w wr ∧ Sk wr Z sh mp g (h.take j)))
  case atStart => exact ⟨0, Nat.zero_le _, rfl, rfl, Kp.refl _ _, by rw [List.take_zero]; exact HX.out⟩
  case round =>
    obtain ⟨j, hj, rfl, rfl, HK⟩ := hrel
    by_cases hlt : j < n
    · have hlt2 : (j : Int) < (n : Int) := by omega
      have hjh : j < h.length := by rw [← HN.out.1]; exact hlt
      obtain ⟨g0, o0, q, cq, rfl, hg0, hc0, hl0, hr0, hb0⟩ := (HT.out.keep HK.out.1 (fun b hb e => by have := HD.out.1; omega)) j (by rw [List.length_map]; exact hjh)
      have hgd : (h.map wrS).getD j [] = wrS h[j] := by rw [List.getD_eq_getElem?_getD, List.getElem?_map, List.getElem?_eq_getElem hjh]; rfl
      rw [hgd] at hc0 hl0 hr0
      obtain ⟨r, hr⟩ : ∃ r, r = h[j] := ⟨_, rfl⟩
      rw [← hr] at hc0 hl0 hr0
      have hrc : Cn r := by rw [hr]; exact HCn.out _ (List.getElem_mem hjh)
      have HRc : Hid (Cn r) := hrc
      have HRO : Hid (Calls _ _ _ wr _) := recordOf_ok hrc hr0 hl0
      have HTk : Hid (h.take (j + 1) = h.take j ++ [r]) := by
        show _ = _
        rw [List.take_add_one, List.getElem?_eq_getElem hjh, hr]
        rfl
      have HJ : Hid (j < n) := hlt
      have hw1 : wrap64 ((j : Int) + 1) = ((j + 1 : Nat) : Int) := by have := HN.out.2; unfold wrap64; omega
      obtain ⟨L, hL⟩ : ∃ L, L = (wrS r).length := ⟨_, rfl⟩
      rw [← hL] at hc0 HRO
      clear hg0 hl0 hr0 hb0 hgd hr hrc hjh hlt hL
      go_wp2_with fail
      refine HRO.out.mono ?_
      rintro e9 w1 ⟨pb, cb, rfl, k1, rb1, hp1⟩
      have HK1 : Hid (Kp (fun _ => False) wr w1 ∧ Rb w1 pb r.b.length r.b ∧ ∀ a, pb = some a → wr.heap.size ≤ a.block) := ⟨k1, rb1, hp1⟩
      clear k1 rb1 hp1 HRO
      go_upto_region 7 with fail
      obtain ⟨w2, hw2⟩ : ∃ z, z = w1.alloc (.cells #[.int .i64 (r.k : Int), .int .i64 (r.n : Int), .int .i64 (r.i : Int), .int .i64 (r.e : Int), .slice pb r.b.length cb] 85) := ⟨_, rfl⟩
      rw [← hw2]
      have k2 : Kp (fun _ => False) w1 w2 := by rw [hw2]; exact (Kp.refl _ _).alloc _
      obtain ⟨qx, hqx⟩ : ∃ x, x = w1.heap.size := ⟨_, rfl⟩
      rw [← hqx]
      have l2 : Lv w2 qx [.int .i64 (r.k : Int), .int .i64 (r.n : Int), .int .i64 (r.i : Int), .int .i64 (r.e : Int), .slice pb r.b.length cb] := by rw [hw2, hqx]; exact Lv.new w1 _ _
      have kd : Kp (fun _ => False) w2 { w2 with drawn := w2.drawn + 1 } := (Kp.refl _ _).drew
      have l3 := l2.keep kd id
      refine wp_region_still_tail 4 (by kernel_rfl) (by kernel_rfl) ?_
      obtain ⟨w3, hw3⟩ : ∃ x, x = { w2 with drawn := w2.drawn + 1 } := ⟨_, rfl⟩
      rw [← hw3] at kd l3 ⊢
      have d0 := l3.cell (j := 0) rfl
      have d1 := l3.cell (j := 1) rfl
      have d2 := l3.cell (j := 2) rfl
      have d3 := l3.cell (j := 3) rfl
      have d4 := l3.cell (j := 4) rfl
      have kr3 : Kp (fun _ => False) wr w3 := (HK1.out.1.trans k2 (fun _ _ e => e)).trans kd (fun _ _ e => e)
      have HTa : Hid (Calls _ _ _ w3 _) := take_ok (HK.out.2.keep kr3 id id (fun _ _ => id)) r pb cb ((HK1.out.2.1.keep0 k2).keep0 kd) HRc.out.g (by rw [List.length_take]; have := HN.out; have := HJ.out; omega) (fun a ha => HD.out.2.1 _ (Nat.le_trans HK.out.1.size (HK1.out.2.2 a ha))) HD.out.2.2
      have HK3 : Hid (Kp (fun b => b = sh ∨ b = mp) w w3) := HK.out.1.trans kr3 (fun _ _ e => e.elim)
      clear kr3 hw3 kd l2 l3 k2 hw2 hqx HK1
      simp only [List.take_succ_cons, List.take_zero, List.drop_succ_cons, List.drop_zero]
      iterate 4 still_step
      refine wpStill_nil ?_
      clear d0 d1 d2 d3 d4
      go_wp2_with fail
      refine HTa.out.mono ?_
      rintro e9 w4 ⟨rfl, k4, s4⟩
      have HF4 : Hid (Kp (fun b => b = sh ∨ b = mp) w w4 ∧ Sk w4 Z sh mp g (h.take (j + 1))) := ⟨HK3.out.trans k4 (fun _ _ e => e), by rw [HTk.out]; exact s4⟩
      clear k4 s4 HTa HK3 HK
      go_wp2
      go_roundg (n - (j + 1))
      case rel => exact ⟨j + 1, HJ.out, rfl, by first | rw [hw1] | simp, HF4.out⟩
      case measure => have := HJ.out; omega
    · have hjn : j = n := by omega
      subst hjn
      have hlt2 : ¬ (j : Int) < (j : Int) := by omega
      have HF : Hid (Kp (fun b => b = sh ∨ b = mp) w wr ∧ Sk wr Z sh mp g h) := by
        have h9 := HK.out
        rw [List.take_of_length_le (Nat.le_of_eq HN.out.1.symm)] at h9
        exact h9
      clear HK HX
      go_wp2
      go_ret
      exact ⟨rfl, HF.out⟩

set_option maxRecDepth 100000 in
set_option maxHeartbeats 1600000 in
theorem sopen_any {w : World} {bp d m s q a b c e y : Nat} {hh : List Rc} {dur : List Nat} {T : Nat → Option (List Nat)} {rdW : Nat → List Nat} (h : Lc w bp d m s q a b c e y (hh.map wrS) dur T rdW) (hcn : ∀ r ∈ hh, Cn r) (hn : hh.length ≤ 1000) (ha : a < 1152921504606846976) (hb : b < 1152921504606846976) (ht : Turns w) :
    ∃ k, y ≤ k ∧ k ≤ hh.length ∧ Calls Tryz.prog 26 #[.pointer (some ⟨bp, 0, none⟩)] w fun e9 w' => ∃ sh mp g gf dur2 N, e9 = .returned (.tuple #[.pointer (some ⟨sh, 0, none⟩), .int .i64 0]) ∧ Kp (fun x => x = d ∨ x = m) w w' ∧ (w.heap.size ≤ sh ∧ w.heap.size ≤ mp ∧ w.heap.size ≤ g ∧ w.heap.size ≤ gf) ∧ N ≤ w'.heap.size ∧ Shf w' (fun x => N ≤ x) sh mp g bp d m gf s (a + 1) (b + 1) c e k dur2 (hh.take k) := by
  obtain ⟨k, hyk, hk, _, HOp⟩ := lc_open h ha hb ht
  rw [List.length_map] at hk
  refine ⟨k, hyk, hk, ?_⟩
  rw [← List.map_take] at HOp
  have HO : Hid (Calls _ _ _ w _) := HOp
  have HT : Hid (Turns w) := ht
  have HTd : Hid ((¬ (0 : Nat) = d ∧ ¬ (0 : Nat) = m) ∧ (0 : Nat) < w.heap.size ∧ bp < w.heap.size ∧ d < w.heap.size ∧ m < w.heap.size) := ⟨h.td, World.block_lt_of_cell? _ _ (ht 0 (by decide)), h.pt.lt, h.pt.row.lt, h.pt.mp.lt⟩
  have HCn : Hid ((∀ r ∈ hh.take k, Cn r) ∧ (hh.take k).length = k ∧ k ≤ 1000) := ⟨fun r hr => hcn r (List.mem_of_mem_take hr), by rw [List.length_take]; omega, by omega⟩
  have HIs : Hid (∀ u, Calls Tryz.prog 57 #[.nilIface, eno 70] u fun e w' => e = .returned (.bool false) ∧ w' = u) := fun u => is_nil 70 u
  have hmm : ∀ (t : TypeId) (w : World), (Instr.makeMap t none).run Tryz.prog w = .ok (.map (some w.heap.size)) (w.alloc (.map #[] 0)) := fun _ _ => rfl
  obtain ⟨hk2, hh2⟩ : ∃ l, l = hh.take k := ⟨_, rfl⟩
  rw [← hh2] at HO HCn ⊢
  clear h hcn hn ha hb ht hyk hk HOp hh2
  go_enter Tryz.func26, Tryz.ntmps26
  go_wp2_with fail
  refine HO.out.mono ?_
  rintro e9 w2 ⟨g, gf, v, dur2, rfl, k2, hg, hgf, r2, l2⟩
  obtain ⟨pv, cv, rfl, t2⟩ := r2.tq (fun ys hy x hx => by
    obtain ⟨r, hr, rfl⟩ := List.mem_map.1 hy
    exact wrS_b (HCn.out.1 r hr).g x hx)
  rw [List.length_map] at l2 ⊢
  obtain ⟨mp, hmp⟩ : ∃ x, x = w2.heap.size := ⟨_, rfl⟩
  obtain ⟨w3, hw3⟩ : ∃ y, y = w2.alloc (.map #[] 0) := ⟨_, rfl⟩
  have hm3 : Px3 w3 mp 0 (fun _ => none) := by rw [hw3, hmp]; exact Px3.made w2
  have k3 : Kp (fun _ => False) w2 w3 := by rw [hw3]; exact (Kp.refl _ _).alloc _
  obtain ⟨sh, hsh⟩ : ∃ x, x = w3.heap.size := ⟨_, rfl⟩
  obtain ⟨w4, hw4⟩ : ∃ y, y = w3.alloc (.cells #[.pointer (some ⟨g, 0, none⟩), .map (some mp), .int .i64 0] 92) := ⟨_, rfl⟩
  have s4 : Sk w4 (fun x => w4.heap.size ≤ x) sh mp g [] := by rw [hw4, hsh]; exact Sk.new w3 _ g mp hm3
  have k4 : Kp (fun _ => False) w3 w4 := by rw [hw4]; exact (Kp.refl _ _).alloc _
  have hz : w3.heap.size = w2.heap.size + 1 ∧ w4.heap.size = w3.heap.size + 1 := ⟨by rw [hw3]; simp, by rw [hw4]; simp⟩
  have k24 : Kp (fun _ => False) w2 w4 := k3.trans k4 (fun _ _ e => e)
  have hLen := HCn.out.2
  have HRe : Hid (Calls _ _ _ w4 _) := replay_ok (p := pv) (c := cv) s4 HCn.out.1 (by omega) (t2.keep k24 (fun _ _ e => e)) ⟨by omega, by omega⟩ (fun b hb => hb) ⟨by omega, by omega, by omega⟩
  rw [hLen.1] at HRe l2
  have HB2 := l2.blk
  have HFin : Hid (∀ w5, Kp (fun b => b = sh ∨ b = mp) w4 w5 → Sk w5 (fun x => w4.heap.size ≤ x) sh mp g hk2 → Kp (fun x => x = d ∨ x = m) w w5 ∧ (w.heap.size ≤ sh ∧ w.heap.size ≤ mp ∧ w.heap.size ≤ g ∧ w.heap.size ≤ gf) ∧ w4.heap.size ≤ w5.heap.size ∧ Shf w5 (fun x => w4.heap.size ≤ x) sh mp g bp d m gf s (a + 1) (b + 1) c e k dur2 hk2) := fun w5 k5 s5 => by
    obtain ⟨⟨t1, t2'⟩, t3, t4, t5, t6⟩ := HTd.out
    have z1 := k2.size
    refine ⟨k2.trans ((k24.mono (fun _ _ e => e.elim)).trans k5 (fun _ _ e => e)) (fun b hb9 e => by omega), ⟨by omega, by omega, by omega, by omega⟩, k5.size, ⟨⟨0, _, _, (l2.keep0 k24).keep k5 (fun e => by omega) (fun e => by omega) (fun e => by omega) (fun e => by omega) (fun e => by omega)⟩, s5, ?_, ⟨by omega, by omega, by omega⟩, fun x hx => ?_, ⟨by omega, by omega, by omega, by omega⟩, ⟨by omega, by omega⟩⟩⟩
    · exact fun j hj => k5.cellv (k24.cellv ((k2.cellv (HT.out j hj) (fun e => by rcases e with e | e; exact t1 e; exact t2' e))) id) (fun e => by
        have e' : (0 : Nat) = sh ∨ (0 : Nat) = mp := e
        omega)
    · rcases hx with rfl | rfl | rfl <;> exact ⟨by omega, by omega, by omega⟩
  rw [hLen.1]
  clear k2 l2 hm3 k3 s4 k4 hz hg hgf HO t2 r2 k24 HB2 hLen
  go_wp2_with fail
  have hsh1 : mp + 1 = sh := by rw [hsh, hw3, hmp]; simp
  rw [← hmp, ← hw3, hsh1, ← hw4]
  clear hmp hw3 hsh hsh1 hw4
  refine HRe.out.mono ?_
  rintro e9 w5 ⟨rfl, k5, s5⟩
  have HF : Hid _ := HFin.out w5 k5 s5
  clear k5 s5 HFin HRe
  go_wp2_with fail
  refine (HIs.out _).mono ?_
  rintro e9 w9 ⟨rfl, hw9⟩
  have hw8 := hw9.symm
  subst hw8
  clear hw9
  go_wp2_with fail
  go_ret2
  exact ⟨sh, mp, g, gf, dur2, _, rfl, HF.out⟩
end Go.Proofs.YtmooddbhcccicaaGreatDoor

/- Calls of a shelf with room for few records, as the laws make them. -/
namespace Go.Proofs.YtmooddbhcccicaaGreatDoor
set_option linter.unusedVariables false
set_option linter.unusedSimpArgs false
open Go.RowKit Go.Deep Go.Maps

/-- a shelf that is the law's own, made behind w: N was the heap's size then -/
structure D8 (w u : World) (N sh mp g bp d m gf : Nat) (dur : List Nat) (h : List Rc) : Prop where
  s : Shf u (fun x => N ≤ x) sh mp g bp d m gf 298 1 1 0 1 0 dur h
  k : Kp (fun _ => False) w u
  n : N ≤ u.heap.size
  z : w.heap.size ≤ sh ∧ w.heap.size ≤ mp ∧ w.heap.size ≤ g ∧ w.heap.size ≤ gf ∧ w.heap.size ≤ m
  g : ∀ r ∈ h, GoodR r ∧ r.b.length ≤ 600
/-- bytes of one's own are kept -/
structure Oks (N : Nat) (u u' : World) : Prop where
  sz : u.heap.size ≤ u'.heap.size
  row : ∀ (t : TypeId) (k n : Nat) (v : Value) (xs : List Value), u.ownsRow N t k v n xs → u'.ownsRow N t k v n xs
theorem Oks.ow {N : Nat} {u u' : World} (o : Oks N u u') {v : Value} {xs : List Nat} (h : Ow u N v xs) : Ow u' N v xs := o.row _ _ _ _ _ h
section
variable {w u : World} {N sh mp g bp d m gf : Nat} {dur : List Nat} {h : List Rc}
theorem D8.keep0 (x : D8 w u N sh mp g bp d m gf dur h) {u' : World} (k : Kp (fun _ => False) u u') : D8 w u' N sh mp g bp d m gf dur h ∧ Oks N u u' :=
  ⟨⟨x.s.keep0 k, x.k.trans k (fun _ _ e => e), Nat.le_trans x.n k.size, x.z, x.g⟩, k.size, fun t q n v xs o => ownsRow_keep o k (fun _ _ e => e)⟩
theorem D8.put (x : D8 w u N sh mp g bp d m gf dur h) {u' : World} {h' : List Rc} (k : Kp (SW sh mp g m gf) u u') (s : Shf u' (fun x => N ≤ x) sh mp g bp d m gf 298 1 1 0 1 0 dur h') (hg : ∀ r ∈ h', GoodR r ∧ r.b.length ≤ 600) : D8 w u' N sh mp g bp d m gf dur h' ∧ Oks N u u' := by
  have z := x.z
  refine ⟨⟨s, x.k.trans k (fun b hb e => ?_), Nat.le_trans x.n k.size, x.z, hg⟩, k.size, fun t q n v xs o => ownsRow_keep o k (fun b hb e => ?_)⟩
  · rcases e with e | e | e | e | e <;> omega
  · have hb := (ownBlock_lt o hb).1
    rcases e with e | e | e | e | e
    · exact (x.s.aq m (Or.inl rfl)).1 (e ▸ hb)
    · exact (x.s.aq g (Or.inr (Or.inl rfl))).1 (e ▸ hb)
    · exact (x.s.aq gf (Or.inr (Or.inr rfl))).1 (e ▸ hb)
    · exact x.s.ap.2.1 (e ▸ hb)
    · exact x.s.ap.2.2 (e ▸ hb)
theorem D8.more (x : D8 w u N sh mp g bp d m gf dur h) {r : Rc} (hr : GoodR r ∧ r.b.length ≤ 600) : ∀ q ∈ h ++ [r], GoodR q ∧ q.b.length ≤ 600 := fun q hq => by
  rcases List.mem_append.1 hq with hq | hq
  · exact x.g q hq
  · rw [List.mem_singleton.1 hq]; exact hr
theorem D8.drop_none (x : D8 w u N sh mp g bp d m gf dur h) (bl ix : Nat) (hbl : bl ≤ 1152921504606846976) (hix : ix ≤ 1152921504606846976) (hn : h.length ≤ 5) (hno : (stS h).1 ⟨1, (bl : Int), (ix : Int)⟩ = none) :
    Calls Tryz.prog 22 #[.pointer (some ⟨sh, 0, none⟩), .int .i64 (bl : Int), .int .i64 (ix : Int)] u fun e9 u' => e9 = .returned (.int .i64 80) ∧ D8 w u' N sh mp g bp d m gf dur h ∧ Oks N u u' := by
  have hr := fits_small x.g (good2 hbl hix) hn
  refine (sdrop_ok x.s bl ix hbl hix (by omega) hr.1 hr.2).mono ?_
  rintro e9 u' (⟨_, rfl, k⟩ | ⟨⟨o, ho⟩, _⟩)
  · exact ⟨rfl, x.keep0 k⟩
  · rw [hno] at ho; cases ho
theorem D8.drop_some (x : D8 w u N sh mp g bp d m gf dur h) (bl ix : Nat) (hbl : bl ≤ 1152921504606846976) (hix : ix ≤ 1152921504606846976) (hn : h.length ≤ 5) {o : Rc} (ho : (stS h).1 ⟨1, (bl : Int), (ix : Int)⟩ = some o) :
    Calls Tryz.prog 22 #[.pointer (some ⟨sh, 0, none⟩), .int .i64 (bl : Int), .int .i64 (ix : Int)] u fun e9 u' => e9 = .returned (.int .i64 0) ∧ D8 w u' N sh mp g bp d m gf dur (h ++ [⟨2, bl, ix, 0, []⟩]) ∧ Oks N u u' := by
  have hr := fits_small x.g (good2 hbl hix) hn
  refine (sdrop_ok x.s bl ix hbl hix (by omega) hr.1 hr.2).mono ?_
  rintro e9 u' (⟨hno, _⟩ | ⟨_, rfl, k, s⟩)
  · rw [hno] at ho; cases ho
  · exact ⟨rfl, x.put k s (x.more (good2 hbl hix))⟩
theorem D8.fence (x : D8 w u N sh mp g bp d m gf dur h) (bl ix ep : Nat) (hbl : bl ≤ 1152921504606846976) (hix : ix ≤ 1152921504606846976) (hep : ep ≤ 1152921504606846976) (hn : h.length ≤ 5) (hf : fncd h bl ix < ep) :
    Calls Tryz.prog 15 #[.pointer (some ⟨sh, 0, none⟩), .int .i64 (bl : Int), .int .i64 (ix : Int), .int .i64 (ep : Int)] u fun e9 u' => e9 = .returned (.int .i64 0) ∧ D8 w u' N sh mp g bp d m gf dur (h ++ [⟨3, bl, ix, ep, []⟩]) ∧ Oks N u u' := by
  have hr := fits_small x.g (good3 hbl hix hep) hn
  refine (sfence_new x.s bl ix ep hbl hix hep hf (by omega) hr.1 hr.2).mono ?_
  rintro e9 u' ⟨rfl, k, s⟩
  exact ⟨rfl, x.put k s (x.more (good3 hbl hix hep))⟩
theorem D8.store_new (x : D8 w u N sh mp g bp d m gf dur h) (bl ix ep : Nat) (hbl : bl ≤ 1152921504606846976) (hix : ix ≤ 1152921504606846976) (hep : ep ≤ 1152921504606846976) (hn : h.length ≤ 5) {base : Nat} {v : Value} {xs : List Nat} (hv : Ow u base v xs) (hx1 : 1 ≤ xs.length ∧ xs.length ≤ 600) (hxb : ∀ v ∈ xs, v < 256)
    (hf : fncd h bl ix ≤ ep) (hno : (stS h).1 ⟨1, (bl : Int), (ix : Int)⟩ = none) :
    Calls Tryz.prog 14 #[.pointer (some ⟨sh, 0, none⟩), .int .i64 (bl : Int), .int .i64 (ix : Int), .int .i64 (ep : Int), v] u fun e9 u' => e9 = .returned (.int .i64 0) ∧ D8 w u' N sh mp g bp d m gf dur (h ++ [⟨1, bl, ix, 0, xs⟩]) ∧ Oks N u u' := by
  have hg := good1 (xs := xs) hbl hix hxb hx1.2
  have hr := fits_small x.g hg hn
  obtain ⟨p, c, rfl, _, hb, _⟩ := hv.rb hxb
  refine (sstore_ok x.s bl ix ep hbl hix hep p xs.length c xs hb rfl (by omega) hxb (fun v hv => Nat.le_trans x.n hv) (by omega) hr.1 hr.2).mono ?_
  rintro e9 u' (⟨h1, _⟩ | ⟨_, _, rfl, k, s⟩ | ⟨_, o, ho, _⟩)
  · omega
  · exact ⟨rfl, x.put k s (x.more hg)⟩
  · rw [hno] at ho; cases ho
theorem D8.store_low (x : D8 w u N sh mp g bp d m gf dur h) (bl ix ep : Nat) (hbl : bl ≤ 1152921504606846976) (hix : ix ≤ 1152921504606846976) (hep : ep ≤ 1152921504606846976) (hn : h.length ≤ 5) {base : Nat} {v : Value} {xs : List Nat} (hv : Ow u base v xs) (hx1 : 1 ≤ xs.length ∧ xs.length ≤ 600) (hxb : ∀ v ∈ xs, v < 256)
    (hf : ep < fncd h bl ix) :
    Calls Tryz.prog 14 #[.pointer (some ⟨sh, 0, none⟩), .int .i64 (bl : Int), .int .i64 (ix : Int), .int .i64 (ep : Int), v] u fun e9 u' => e9 = .returned (.int .i64 81) ∧ D8 w u' N sh mp g bp d m gf dur h ∧ Oks N u u' := by
  have hg := good1 (xs := xs) hbl hix hxb hx1.2
  have hr := fits_small x.g hg hn
  obtain ⟨p, c, rfl, _, hb, _⟩ := hv.rb hxb
  refine (sstore_ok x.s bl ix ep hbl hix hep p xs.length c xs hb rfl (by omega) hxb (fun v hv => Nat.le_trans x.n hv) (by omega) hr.1 hr.2).mono ?_
  rintro e9 u' (⟨_, rfl, k⟩ | ⟨h1, _⟩ | ⟨h1, _⟩)
  · exact ⟨rfl, x.keep0 k⟩
  · omega
  · omega
theorem D8.store_there (x : D8 w u N sh mp g bp d m gf dur h) (bl ix ep : Nat) (hbl : bl ≤ 1152921504606846976) (hix : ix ≤ 1152921504606846976) (hep : ep ≤ 1152921504606846976) (hn : h.length ≤ 5) {base : Nat} {v : Value} {xs : List Nat} (hv : Ow u base v xs) (hx1 : 1 ≤ xs.length ∧ xs.length ≤ 600) (hxb : ∀ v ∈ xs, v < 256)
    (hf : fncd h bl ix ≤ ep) {o : Rc} (ho : (stS h).1 ⟨1, (bl : Int), (ix : Int)⟩ = some o) :
    Calls Tryz.prog 14 #[.pointer (some ⟨sh, 0, none⟩), .int .i64 (bl : Int), .int .i64 (ix : Int), .int .i64 (ep : Int), v] u fun e9 u' => e9 = .returned (.int .i64 (if o.b = xs then 0 else 82)) ∧ D8 w u' N sh mp g bp d m gf dur h ∧ Oks N u u' := by
  have hg := good1 (xs := xs) hbl hix hxb hx1.2
  have hr := fits_small x.g hg hn
  obtain ⟨p, c, rfl, _, hb, _⟩ := hv.rb hxb
  refine (sstore_ok x.s bl ix ep hbl hix hep p xs.length c xs hb rfl (by omega) hxb (fun v hv => Nat.le_trans x.n hv) (by omega) hr.1 hr.2).mono ?_
  rintro e9 u' (⟨h1, _⟩ | ⟨_, h1, _⟩ | ⟨_, o', h1, rfl, k⟩)
  · omega
  · rw [h1] at ho; cases ho
  · rw [ho] at h1
    cases h1
    exact ⟨rfl, x.keep0 k⟩
theorem D8.fetch_low (x : D8 w u N sh mp g bp d m gf dur h) (bl ix ep : Nat) (hbl : bl ≤ 1152921504606846976) (hix : ix ≤ 1152921504606846976) (hep : ep ≤ 1152921504606846976) (hf : ep < fncd h bl ix) :
    Calls Tryz.prog 17 #[.pointer (some ⟨sh, 0, none⟩), .int .i64 (bl : Int), .int .i64 (ix : Int), .int .i64 (ep : Int)] u fun e9 u' => e9 = .returned (.tuple #[.slice none 0 0, .int .i64 81]) ∧ D8 w u' N sh mp g bp d m gf dur h ∧ Oks N u u' := by
  refine (sfetch_ok x.s bl ix ep hbl hix hep).mono ?_
  rintro e9 u' ⟨k, ⟨_, rfl⟩ | ⟨h1, _⟩ | ⟨h1, _⟩⟩
  · exact ⟨rfl, x.keep0 k⟩
  · omega
  · omega
theorem D8.fetch_none (x : D8 w u N sh mp g bp d m gf dur h) (bl ix ep : Nat) (hbl : bl ≤ 1152921504606846976) (hix : ix ≤ 1152921504606846976) (hep : ep ≤ 1152921504606846976) (hf : fncd h bl ix ≤ ep) (hno : (stS h).1 ⟨1, (bl : Int), (ix : Int)⟩ = none) :
    Calls Tryz.prog 17 #[.pointer (some ⟨sh, 0, none⟩), .int .i64 (bl : Int), .int .i64 (ix : Int), .int .i64 (ep : Int)] u fun e9 u' => e9 = .returned (.tuple #[.slice none 0 0, .int .i64 80]) ∧ D8 w u' N sh mp g bp d m gf dur h ∧ Oks N u u' := by
  refine (sfetch_ok x.s bl ix ep hbl hix hep).mono ?_
  rintro e9 u' ⟨k, ⟨h1, _⟩ | ⟨_, _, rfl⟩ | ⟨_, o, v, ho, _⟩⟩
  · omega
  · exact ⟨rfl, x.keep0 k⟩
  · rw [hno] at ho; cases ho
theorem D8.fetch_some (x : D8 w u N sh mp g bp d m gf dur h) (bl ix ep : Nat) (hbl : bl ≤ 1152921504606846976) (hix : ix ≤ 1152921504606846976) (hep : ep ≤ 1152921504606846976) (hf : fncd h bl ix ≤ ep) {o : Rc} (ho : (stS h).1 ⟨1, (bl : Int), (ix : Int)⟩ = some o) :
    Calls Tryz.prog 17 #[.pointer (some ⟨sh, 0, none⟩), .int .i64 (bl : Int), .int .i64 (ix : Int), .int .i64 (ep : Int)] u fun e9 u' => ∃ v, e9 = .returned (.tuple #[v, .int .i64 0]) ∧ Ow u' N v o.b ∧ D8 w u' N sh mp g bp d m gf dur h ∧ Oks N u u' := by
  refine (sfetch_ok x.s bl ix ep hbl hix hep).mono ?_
  rintro e9 u' ⟨k, ⟨h1, _⟩ | ⟨_, h1, _⟩ | ⟨_, o', v, h1, rfl, ow⟩⟩
  · omega
  · rw [h1] at ho; cases ho
  · rw [ho] at h1
    cases h1
    exact ⟨v, rfl, ownsRow_base ow x.n, x.keep0 k⟩
theorem sfence_same {Z : Nat → Prop} {s a b c e y : Nat} (x : Shf u Z sh mp g bp d m gf s a b c e y dur h) (bl ix ep : Nat) (hbl : bl ≤ 1152921504606846976) (hix : ix ≤ 1152921504606846976) (hep : ep ≤ 1152921504606846976) (hf : ep ≤ fncd h bl ix) :
    Calls Tryz.prog 15 #[.pointer (some ⟨sh, 0, none⟩), .int .i64 (bl : Int), .int .i64 (ix : Int), .int .i64 (ep : Int)] u fun e9 w' => e9 = .returned (.int .i64 0) ∧ Kp (fun _ => False) u w' := by
  obtain ⟨r0, hr0⟩ : ∃ r0, r0 = u.heap.size := ⟨_, rfl⟩
  obtain ⟨w0, hw0⟩ : ∃ y, y = u.alloc (.cells #[.int .i64 (bl : Int), .int .i64 (ix : Int), .int .i64 (ep : Int)] 3) := ⟨_, rfl⟩
  have HK0 : Hid (Kp (fun _ => False) u w0) := by rw [hw0]; exact (Kp.refl _ _).alloc _
  have HS0 : Hid (Shf w0 Z sh mp g bp d m gf s a b c e y dur h) := x.keep0 HK0.out
  have HA : Hid (Calls Tryz.prog 44 #[.pointer (some ⟨sh, 0, none⟩), .slice (some ⟨r0, 0, none⟩) 3 3] w0 fun e w' => e = .returned (.int .i64 0) ∧ w' = w0) := by
    have h1 := asked_ok (HS0.out.sk.l.cell (j := 0) rfl) (some ⟨r0, 0, none⟩) 3 3 [(bl : Int), (ix : Int), (ep : Int)] (by rw [hw0, hr0]; exact rz3 u _ _ _ _) rfl (by omega)
    rw [upTo3 hbl hix hep] at h1
    exact h1
  have HFe : Hid (Calls _ _ _ w0 _) := fenced_ok HS0.out.sk bl ix hbl hix
  obtain ⟨F, hF⟩ : ∃ F, F = fncd h bl ix := ⟨_, rfl⟩
  rw [← hF] at HFe hf
  have hle : (ep : Int) ≤ (F : Int) := by omega
  clear x hbl hix hep hf hF
  go_enter Tryz.func15, Tryz.ntmps15
  go_wp2_with fail
  rw [← hw0, ← hr0]
  clear hw0 hr0
  refine HA.out.mono ?_
  rintro e9 w9 ⟨rfl, hw9⟩
  have hw8 := hw9.symm
  subst hw8
  clear hw9 HA
  go_wp2_with fail
  refine HFe.out.mono ?_
  rintro e9 w9 ⟨rfl, hw9⟩
  have hw8 := hw9.symm
  subst hw8
  clear hw9 HFe
  go_wp2
  go_ret
  exact ⟨rfl, HK0.out⟩
theorem D8.fence_any (x : D8 w u N sh mp g bp d m gf dur h) (bl ix ep : Nat) (hbl : bl ≤ 1152921504606846976) (hix : ix ≤ 1152921504606846976) (hep : ep ≤ 1152921504606846976) (hn : h.length ≤ 5) (hf : fncd h bl ix ≤ ep) :
    Calls Tryz.prog 15 #[.pointer (some ⟨sh, 0, none⟩), .int .i64 (bl : Int), .int .i64 (ix : Int), .int .i64 (ep : Int)] u fun e9 u' => e9 = .returned (.int .i64 0) ∧ Oks N u u' ∧ ∃ h', D8 w u' N sh mp g bp d m gf dur h' ∧ h'.length ≤ h.length + 1 ∧ fncd h' bl ix = ep ∧ ∀ b i : Int, (stS h').1 ⟨1, b, i⟩ = (stS h).1 ⟨1, b, i⟩ := by
  by_cases h1 : fncd h bl ix < ep
  · refine (x.fence bl ix ep hbl hix hep hn h1).mono ?_
    rintro e9 u' ⟨rfl, x', o⟩
    have h2 := stS_fence h bl ix ep (by omega)
    exact ⟨rfl, o, _, x', by simp, h2.1, h2.2⟩
  · refine (sfence_same x.s bl ix ep hbl hix hep (by omega)).mono ?_
    rintro e9 u' ⟨rfl, k⟩
    have h2 := x.keep0 k
    exact ⟨rfl, h2.2, h, h2.1, by omega, by omega, fun _ _ => rfl⟩
theorem D8.fenced (x : D8 w u N sh mp g bp d m gf dur h) (bl ix : Nat) (hbl : bl ≤ 1152921504606846976) (hix : ix ≤ 1152921504606846976) :
    Calls Tryz.prog 19 #[.pointer (some ⟨sh, 0, none⟩), .int .i64 (bl : Int), .int .i64 (ix : Int)] u fun e9 u' => e9 = .returned (.int .i64 (fncd h bl ix : Int)) ∧ u' = u := fenced_ok x.s.sk bl ix hbl hix
/-- two of one's own, held against each other -/
theorem eq_own {u : World} {b1 b2 : Nat} {v1 v2 : Value} {xs ys : List Nat} (h1 : Ow u b1 v1 xs) (h2 : Ow u b2 v2 ys) (hx : ∀ x ∈ xs, x < 256) (hy : ∀ x ∈ ys, x < 256) :
    Calls Tryz.prog 20 #[v1, v2] u fun e u' => e = .returned (.bool (decide (xs = ys))) ∧ u' = u := by
  obtain ⟨p, c, rfl, _, r1, _⟩ := h1.rb hx
  obtain ⟨q, d, rfl, _, r2, _⟩ := h2.rb hy
  exact equal_any c d u r1 r2
end
end Go.Proofs.YtmooddbhcccicaaGreatDoor

/- A shelf's map: maps.Values, collected. -/
namespace Go.Proofs.YtmooddbhcccicaaGreatDoor
set_option linter.unusedVariables false
set_option linter.unusedSimpArgs false
open Go.RowKit Go.Deep Go.Maps Go.Shelf Go.Sort

set_option maxRecDepth 100000 in
/-- what is a key, is a thing -/
theorem key3 {v : Value} {kl : Lit} (h : keyOf Tryz.prog 83 v = some kl) : ∃ x : K3, v = pv3 x ∧ wf3 x ∧ kl = pk3 x := by
  obtain ⟨m, hm⟩ := p3t
  unfold keyOf at h
  simp only [Tryz.underlying83, p3k, Bool.true_and] at h
  by_cases hf : v.formed Tryz.prog 83 = true
  · rw [if_pos hf] at h
    obtain ⟨ls, hl, he⟩ := Option.map_eq_some_iff.1 h
    cases v <;> simp [Value.formed, Tryz.underlying83, p3c.1] at hf
    rename_i cs
    obtain ⟨l⟩ := cs
    match l, hf with
    | [a, b, d], _ =>
      rw [hm] at hl
      unfold Program.keyLits at hl
      simp only [Tryz.underlying83, p3c.1, p3c.2] at hl
      simp [Value.cells, List.range_succ, p3c.2] at hl
      have one : ∀ (x : Value) (y : List Lit), Tryz.prog.keyLits (m + 1) 3 [x] = some y → ∃ c : Int, x = .int .i64 c ∧ (Lit.int .i64 c).wf = true ∧ y = [.int .i64 c] := fun x y hy => by
        unfold Program.keyLits at hy
        simp only [Tryz.underlying3] at hy
        cases x <;> simp at hy
        obtain ⟨⟨h1, h2⟩, h3⟩ := hy
        subst h1
        exact ⟨_, rfl, h2, h3.symm⟩
      cases ha : Tryz.prog.keyLits (m + 1) 3 [a] with
      | none => simp [ha] at hl
      | some ya =>
        cases hb : Tryz.prog.keyLits (m + 1) 3 [b] with
        | none => simp [ha, hb] at hl
        | some yb =>
          cases hd : Tryz.prog.keyLits (m + 1) 3 [d] with
          | none => simp [ha, hb, hd] at hl
          | some yd =>
            obtain ⟨c, rfl, hc, rfl⟩ := one a ya ha
            obtain ⟨e, rfl, he', rfl⟩ := one b yb hb
            obtain ⟨f, rfl, hf', rfl⟩ := one d yd hd
            simp [ha, hb, hd] at hl
            exact ⟨⟨c, e, f⟩, rfl, ⟨hc, he', hf'⟩, by rw [← he, ← hl]; rfl⟩
  · rw [if_neg hf] at h; cases h

/-- what a record has besides its thing -/
structure G3 where
  e : Int
  p : Option Addr
  n : Nat
  c : Nat
instance : Inhabited K3 := ⟨⟨0, 0, 0⟩⟩
/-- a record's cells -/
def cE (G : K3 → G3) (x : K3) : List Value := [.int .i64 x.k, .int .i64 x.n, .int .i64 x.i, .int .i64 (G x).e, .slice (G x).p (G x).n (G x).c]
abbrev vE (G : K3 → G3) (x : K3) : Value := .agg #[.int .i64 x.k, .int .i64 x.n, .int .i64 x.i, .int .i64 (G x).e, .slice (G x).p (G x).n (G x).c]
def flat3 (G : K3 → G3) (l : List K3) : List Value := l.flatMap (cE G)
/-- the map's values are G's -/
def Gof (T : K3 → Option Value) (G : K3 → G3) : Prop := ∀ x, wf3 x → ∀ v, T x = some v → v = vE G x

/-- the things that have come so far -/
def V3 (D0 : DataW Value) (left : Lit → Bool) (ss : List K3) : Prop := ss.Nodup ∧ (∀ x ∈ ss, wf3 x) ∧ ∀ x : K3, wf3 x → (x ∈ ss ↔ Maps.has D0 (pk3 x) = true ∧ left (pk3 x) = false)
theorem V3.start (D0 : DataW Value) : V3 D0 (Maps.has D0) [] := ⟨List.nodup_nil, fun _ h => (by cases h), fun x _ => by cases Maps.has D0 (pk3 x) <;> simp⟩
theorem V3.step {D0 : DataW Value} {left : Lit → Bool} {ss : List K3} (h : V3 D0 left ss) {x : K3} (hw : wf3 x) {y : DataW Value} (hlk : left (pk3 x) = true) (hat : ∀ zd, D0.atKey (pk3 x) zd = y) : V3 D0 (fun z => left z && !z.sameKey (pk3 x)) (ss ++ [x]) := by
  have hhas : Maps.has D0 (pk3 x) = true := has_true_of_atKey hat
  have hnew : x ∉ ss := fun hx => by have := ((h.2.2 x hw).1 hx).2; rw [hlk] at this; cases this
  refine ⟨List.nodup_append.2 ⟨h.1, by simp, fun a ha b hb => by simp at hb; subst hb; exact fun e => hnew (e ▸ ha)⟩, fun a ha => ?_, fun y hy => ?_⟩
  · rcases List.mem_append.1 ha with ha | ha
    · exact h.2.1 a ha
    · rw [List.mem_singleton.1 ha]; exact hw
  · by_cases e : y = x
    · subst e
      have hs : (pk3 y).sameKey (pk3 y) = true := WideAt.sameKey_self (pk3_lit hw)
      simp [hhas, hs]
    · have hs : (pk3 y).sameKey (pk3 x) = false := sameKey_ne (fun e2 => e (pk3_inj hy hw e2))
      simp [h.2.2 y hy, e, hs]
/-- what the map has at a key that is there -/
theorem Pd3.val {D : DataW Value} {c : Nat} {T : K3 → Option Value} (h : Pd3 D c T) {G : K3 → G3} (hG : Gof T G) {x : K3} (hw : wf3 x) {v : Value} (hat : ∀ zd, D.atKey (pk3 x) zd = .held v) : v = vE G x := by
  cases hz : T x with
  | none =>
    have h1 := h.no x hw hz
    rw [has_true_of_atKey hat] at h1
    cases h1
  | some u =>
    have h1 := (h.yes x hw u hz).2 (.held v)
    rw [hat] at h1
    injection h1 with h1
    rw [h1]
    exact hG x hw u hz

set_option maxRecDepth 100000 in
set_option maxHeartbeats 2000000 in
theorem vals3_1 (F : Fence) (n : Nat) (h10 : F.fn 131) (hro : F.round = none) (hn : 1 ≤ n) (l Bm b nn : Nat) (D0 : DataW Value) (G : K3 → G3) (T : K3 → Option Value) (hT : Pd3 D0 nn T) (hG : Gof T G) (J Jx : List K3 → World → Prop)
    (hY : ∀ pre x W, J pre W → pre.length < Maps.size D0 → YieldAt F (n - 1) Tryz.prog l #[vE G x] W fun e W' => (e = .returned (.bool true) ∧ J (pre ++ [x]) W' ∧ KeepsWalks W W') ∨ (e = .returned (.bool false) ∧ Jx (pre ++ [x]) W'))
    (W : World) (hJ : AbidesFrom W.heap.size J) (hm : W.cell? ⟨Bm, 0, none⟩ = some (.map (some b))) (hown : W.ownsMap Tryz.prog 83 idK b nn D0) (h0 : J [] W) :
    CallsIn F n Tryz.prog 131 #[.func (.yield l) #[] #[], .pointer (some ⟨Bm, 0, none⟩)] W fun e W' => (∃ v, e = .returned v) ∧ ((∃ ss, V3 D0 (fun _ => false) ss ∧ J ss W') ∨ (∃ pre : List K3, True ∧ Jx pre W')) := by
  refine callsIn_of_wp Tryz.func131 rfl h10 ?_ hro
  simp only [Tryz.ntmps131, List.size_toArray, List.length_cons, List.length_nil, Nat.reduceAdd, Nat.reduceSub, Array.replicate_succ, Array.replicate_zero, List.push_toArray, List.append_toArray, List.nil_append, List.cons_append]
  gi_wp2_with (first
    | (gi_at_range; refine wpListIn_range_own _ rfl _ 88 rfl 83 85 p3Law Tryz.underlying88 _ b nn _ rfl hown ?_; intro w0 hrg0 hg0 hs0)
    | gi_in)
  go_frame
  gi_loopw [4] (fun _ wr => ∃ (left : Lit → Bool) (cnt : Nat) (ss : List K3), wr.ranges Tryz.prog 83 idK b W.heap.size nn D0 left cnt ∧ ss.length + cnt ≤ Maps.size D0 ∧ V3 D0 left ss ∧ J ss wr)
    (fun _ wr => wr.rangeLeft b W.heap.size)
  case atStart =>
    exact ⟨_, _, [], hrg0, by simp, V3.start D0, hJ [] W w0 none h0 hg0 (fun r e => by cases e)⟩
  case round =>
    obtain ⟨left, cnt, ss, hrg, hcs, hC, hJs⟩ := hrel
    gi_wp2_with (first
      | (gi_at_next; refine wpListIn_next_ranges _ rfl _ rfl 83 p3Law idK (fun x : K3 => pv3 x) id (fun key kl hk => by obtain ⟨x, hx, _⟩ := key3 hk; exact ⟨x, hx⟩) (fun v _ _ => ⟨v, rfl⟩) b W.heap.size nn _ _ _ rfl hrg ?_ ?_)
      | gi_in)
    · intro hc0 hl0
      gi_wp2
      go_end0
      obtain ⟨q1, q2, q3⟩ := hC
      exact ⟨⟨_, rfl⟩, .inl ⟨ss, ⟨q1, q2, fun x hx => by rw [q3 x hx, hl0]⟩, hJs⟩⟩
    · intro x c kl y yp w2 cnt2 hkey hlk hv hat hrg2 hlt hg2 hs2 hen
      obtain ⟨x', ex, hwx, rfl⟩ := key3 hkey
      obtain rfl : x = x' := by
        cases x
        cases x'
        simpa using ex
      have hy0 : y = .held c := by have := hv; simp only [idK, Option.some.injEq, Prod.mk.injEq] at this; exact this.1.symm
      rw [hy0] at hat
      have hc := hT.val hG hwx hat
      rw [hc] at hen
      have hJ2 : J ss w2 := hJ ss wr w2 (some W.heap.size) hJs hg2 (fun r e => by cases e; exact ⟨Nat.le_refl _, hrg.iter_walk⟩)
      obtain ⟨w5, hw5⟩ : ∃ z, z = w2.alloc (.cells #[.int .i64 x.k, .int .i64 x.n, .int .i64 x.i, .int .i64 (G x).e, .slice (G x).p (G x).n (G x).c] 85) := ⟨_, rfl⟩
      have hJ3 : J ss w5 := hJ ss w2 _ none hJ2 (by rw [hw5]; exact ⟨rfl, rfl, rfl, by simp, fun k hk _ => blk_alloc_lt _ _ _ hk⟩) (fun r e => by cases e)
      obtain ⟨fn, tmps, assign, body, hy, hR⟩ := hY ss x _ hJ3 (by omega)
      have hC2 := hC.step (x := x) hwx hlk hat
      have HR : Hid (wr.ranges Tryz.prog 83 idK b W.heap.size nn D0 left cnt → True) := fun _ => trivial
      have KW : KeepsWalks w2 w5 := by rw [hw5]; exact KeepsWalks.alloc w2 _
      obtain ⟨xk, xn, xi⟩ := x
      obtain ⟨⟨ge, gp, gn, gc⟩, hgx⟩ : ∃ z, z = G ⟨xk, xn, xi⟩ := ⟨_, rfl⟩
      simp only [vE] at hy hen
      rw [← hgx] at hw5 hy hen
      dsimp only at hw5 hy hR hen
      clear hs2 hJ2 hgx hc hy0 hv hat HR
      subst hw5
      gi_wp2
      refine hR.mono ?_
      rintro e W3 (⟨rfl, hJ3', hk3⟩ | ⟨rfl, hJx3⟩)
      · gi_wp2
        have hrg3 := (hrg2.of_walks KW).of_walks hk3
        go_roundw
        case rel => exact ⟨_, cnt2, ss ++ [⟨xk, xn, xi⟩], hrg3, by simp; omega, hC2, hJ3'⟩
        case measure => rw [hrg3.left_eq, hrg.left_eq]; exact hlt
      · gi_wp2
        refine bodyPost_ret (results_none rfl _ _ _) rfl ?_
        exact ⟨⟨_, rfl⟩, .inr ⟨_, trivial, hJx3⟩⟩

theorem vals3_stops (F : Fence) (n : Nat) (h10 : F.fn 131) (hro : F.round = none) (hn : 1 ≤ n) (Bm b nn : Nat) (D0 : DataW Value) (G : K3 → G3) (T : K3 → Option Value) (hT : Pd3 D0 nn T) (hG : Gof T G) (w : World) (hBm : Bm < w.heap.size)
    (hm : w.cell? ⟨Bm, 0, none⟩ = some (.map (some b))) (hown : w.ownsMap Tryz.prog 83 idK b nn D0) :
    SeqStopsK F n Tryz.prog 131 #[.pointer (some ⟨Bm, 0, none⟩)] (fun x : K3 => #[vE G x]) KeepsWalks (fun ss => V3 D0 (fun _ => false) ss) (fun _ => True) (Maps.size D0) w := fun l J Jx W hW hJ _ hY h0 => by
  have hown' : W.ownsMap Tryz.prog 83 idK b nn D0 := by
    have hbl := hown.lt
    obtain ⟨es, clock, hb, Ft, hs, hD⟩ := hown
    exact ⟨es, clock, (hW.block b hbl).trans hb, Ft, hs, hD⟩
  exact vals3_1 F n h10 hro hn l Bm b nn D0 G T hT hG J Jx hY W hJ ((hW.cell (p := ⟨Bm, 0, none⟩) hBm).trans hm) hown' h0

theorem infoR0 : (Tryz.prog.info? 85).map (fun i => (i.zero.map (·.cells.size), i.size, i.bytes)) = some (some 5, 5, 56) := by kernel_rfl
theorem infoR : ∃ i z, Tryz.prog.info? 85 = some i ∧ i.zero = some z ∧ i.size = 5 ∧ i.bytes = 56 ∧ z.cells.size = 5 := by
  obtain ⟨i, hi, he⟩ := Option.map_eq_some_iff.1 infoR0
  simp only [Prod.mk.injEq] at he
  obtain ⟨h1, h2, h3⟩ := he
  obtain ⟨z, hz, h4⟩ := Option.map_eq_some_iff.1 h1
  exact ⟨i, z, hi, hz, h2, h3, h4⟩
theorem flat3_append (G : K3 → G3) (l m : List K3) : flat3 G (l ++ m) = flat3 G l ++ flat3 G m := by unfold flat3; rw [List.flatMap_append]

set_option maxRecDepth 100000 in
set_option maxHeartbeats 2000000 in
/-- slices.AppendSeq(nil, maps.Values(m)) -/
theorem apvals (Bm b nn : Nat) (D0 : DataW Value) (G : K3 → G3) (T : K3 → Option Value) (hT : Pd3 D0 nn T) (hG : Gof T G) (hsz : Maps.size D0 ≤ 100000) (w : World) (hBm : Bm < w.heap.size) (hm : w.cell? ⟨Bm, 0, none⟩ = some (.map (some b))) (hown : w.ownsMap Tryz.prog 83 idK b nn D0) :
    CallsIn Fence.wide 4 Tryz.prog 130 #[.slice none 0 0, .func (.func 131) #[] #[.pointer (some ⟨Bm, 0, none⟩)]] w fun e w' => ∃ v ss, e = .returned v ∧ V3 D0 (fun _ => false) ss ∧ w'.ownsRow w.heap.size 85 5 v ss.length (flat3 G ss) ∧ Below w.heap.size w w' := by
  have hte : 94 ≠ 85 := by decide
  have hb0 : Below w.heap.size w (w.alloc (.cells #[.slice none 0 0] 94)) := (Below.refl _ w).alloc (Nat.le_refl _) _
  have hown1 : (w.alloc (.cells #[.slice none 0 0] 94)).ownsMap Tryz.prog 83 idK b nn D0 := by
    have hbl := hown.lt
    obtain ⟨es, clock, hb, Ft, hs, hD⟩ := hown
    exact ⟨es, clock, (hb0.block b hbl).trans hb, Ft, hs, hD⟩
  have hseq := vals3_stops Fence.wide 3 trivial rfl (by omega) Bm b nn D0 G T hT hG (w.alloc (.cells #[.slice none 0 0] 94)) (by simp; omega) ((hb0.cell (p := ⟨Bm, 0, none⟩) hBm).trans hm) hown1
  obtain ⟨ti, tz, hi1, hi2, hi3, hi4, hi5⟩ := infoR
  refine callsIn_of_wp_marks Tryz.func130 rfl trivial ?_ rfl
  simp only [Tryz.ntmps130, List.size_toArray, List.length_cons, List.length_nil, Nat.reduceAdd, Nat.reduceSub, Array.replicate_succ, Array.replicate_zero, List.push_toArray, List.append_toArray, List.nil_append, List.cons_append]
  gi_wp2
  refine wpIn_rangeFunc_ownH rfl (by omega) (gf := 131) (lb := #[.pointer (some ⟨Bm, 0, none⟩)]) rfl trivial (enters_of Tryz.func131 (by kernel_rfl) rfl)
    hseq walksK_t walksK_b (Below.refl _ _) (fun _ => rfl)
    (fun pre W => (∃ v, Boxed W w.heap.size 94 v ∧ W.ownsRow w.heap.size 85 5 v pre.length (flat3 G pre) ∧ True) ∧ Below w.heap.size w W)
    (fun _ _ _ => False)
    (OwnFrom.and (Own.from (holdsRow_own w.heap.size w.heap.size 94 85 5 List.length (flat3 G) (fun _ _ => True)) _) (ownFrom_below (Nat.le_refl _) (by simp)))
    (fun _ _ _ _ _ hs _ _ => hs)
    ⟨⟨_, Boxed.new w _ _, World.ownsRow_nil _ _ _ _, trivial⟩, hb0⟩
    (fun x a' W => ∃ Bx, w.heap.size ≤ Bx ∧ W.cell? ⟨Bx, 0, none⟩ = some (.int .i64 x.k) ∧ W.cell? ⟨Bx, 1, none⟩ = some (.int .i64 x.n) ∧ W.cell? ⟨Bx, 2, none⟩ = some (.int .i64 x.i) ∧ W.cell? ⟨Bx, 3, none⟩ = some (.int .i64 (G x).e) ∧ W.cell? ⟨Bx, 4, none⟩ = some (.slice (G x).p (G x).n (G x).c) ∧ a' = { tmps := #[.slice none 0 0, .func (.func 131) #[] #[.pointer (some ⟨Bm, 0, none⟩)], .pointer (some ⟨w.heap.size, 0, none⟩), undef, .slice none 0 0, .pointer (some ⟨Bx, 0, none⟩), .func (.func 131) #[] #[.pointer (some ⟨Bm, 0, none⟩)], vE G x, undef, undef, undef, undef, undef], defers := [] })
    (fun x a' s A B row hs hg hr => by
      obtain ⟨Bx, h1, h2, h3, h4, h5, h6, h7⟩ := hs
      exact ⟨Bx, h1, cell_kept h2 hg (fun r e => (hr r e).2), cell_kept h3 hg (fun r e => (hr r e).2), cell_kept h4 hg (fun r e => (hr r e).2), cell_kept h5 hg (fun r e => (hr r e).2), cell_kept h6 hg (fun r e => (hr r e).2), h7⟩) ?assign ?body ?done ?stop
  case assign =>
    rintro l pre x W K hi hK
    obtain ⟨xk, xn, xi⟩ := x
    obtain ⟨⟨ge, gp, gn, gc⟩, hgx⟩ : ∃ z, z = G ⟨xk, xn, xi⟩ := ⟨_, rfl⟩
    have hcl : Lv (W.alloc (.cells #[.int .i64 xk, .int .i64 xn, .int .i64 xi, .int .i64 ge, .slice gp gn gc] 85)) W.heap.size [.int .i64 xk, .int .i64 xn, .int .i64 xi, .int .i64 ge, .slice gp gn gc] := Lv.new W _ _
    have hBW := hi.2.size
    have HKK : Hid (K { tmps := #[.slice none 0 0, .func (.func 131) #[] #[.pointer (some ⟨Bm, 0, none⟩)], .pointer (some ⟨w.heap.size, 0, none⟩), undef, .slice none 0 0, .pointer (some ⟨W.heap.size, 0, none⟩), .func (.func 131) #[] #[.pointer (some ⟨Bm, 0, none⟩)], .agg #[.int .i64 xk, .int .i64 xn, .int .i64 xi, .int .i64 ge, .slice gp gn gc], undef, undef, undef, undef, undef], defers := [] } (W.alloc (.cells #[.int .i64 xk, .int .i64 xn, .int .i64 xi, .int .i64 ge, .slice gp gn gc] 85))) := by
      obtain ⟨⟨v, hv, hrow, _⟩, hB⟩ := hi
      refine hK _ _ ((KeepsOthers.alloc _ _).from _) (KeepsWalks.alloc _ _) ⟨⟨v, hv.alloc _, hrow.alloc _, trivial⟩, hB.trans ((Below.refl _ W).alloc hB.size _)⟩ ⟨W.heap.size, hBW, hcl.cell (j := 0) rfl, hcl.cell (j := 1) rfl, hcl.cell (j := 2) rfl, ?_, ?_, ?_⟩
      · rw [← hgx]; exact hcl.cell (j := 3) rfl
      · rw [← hgx]; exact hcl.cell (j := 4) rfl
      · simp only [vE]; rw [← hgx]
    clear hK hi hcl hBW
    simp only [vE]
    rw [← hgx]
    clear hgx
    gi_wp2_with gi_round_op_a
    exact HKK.out
  case body =>
    rintro l pre x a' W hl hrl ⟨⟨v, hv, hrow, _⟩, hB⟩ ⟨Bx, hBx, cx0, cx1, cx2, cx3, cx4, rfl⟩ hlen
    have hc2 := hv.cell
    have hf2 := hv.frozen
    have hBs2 := hB.size
    have hpf : flat3 G (pre ++ [x]) = flat3 G pre ++ [.int .i64 x.k, .int .i64 x.n, .int .i64 x.i, .int .i64 (G x).e, .slice (G x).p (G x).n (G x).c] := by rw [flat3_append]; rfl
    obtain ⟨xk, xn, xi⟩ := x
    obtain ⟨⟨ge, gp, gn, gc⟩, hgx⟩ : ∃ z, z = G ⟨xk, xn, xi⟩ := ⟨_, rfl⟩
    rw [← hgx] at cx3 cx4 hpf
    have hcl : Lv (W.alloc (.cells #[.int .i64 xk, .int .i64 xn, .int .i64 xi, .int .i64 ge, .slice gp gn gc] 85)) W.heap.size [.int .i64 xk, .int .i64 xn, .int .i64 xi, .int .i64 ge, .slice gp gn gc] := Lv.new W _ _
    have HCL : Hid (∀ j u, [Value.int .i64 xk, Value.int .i64 xn, .int .i64 xi, .int .i64 ge, .slice gp gn gc][j]? = some u → (W.alloc (.cells #[.int .i64 xk, .int .i64 xn, .int .i64 xi, .int .i64 ge, .slice gp gn gc] 85)).cell? ((⟨W.heap.size, 0, none⟩ : Addr).add j) = some u) := fun j u hj => by rw [Addr.add_mid, Nat.zero_add]; exact hcl.cell hj
    clear hcl
    simp only [vE]
    rw [← hgx]
    clear hgx
    dsimp only at cx0 cx1 cx2 cx3 cx4 hpf
    gi_wp2_with (first
      | (gi_at_builtin; refine wpListIn_append_own _ rfl _ _ 94 rfl w.heap.size 85 ti tz 5 56 Tryz.underlying94 hi1 hi2 hi3 hi4 hi5 (by decide) _ _ _ rfl (hrow.alloc _) ⟨W.heap.size, 0, none⟩ 1 1 [.int .i64 xk, .int .i64 xn, .int .i64 xi, .int .i64 ge, .slice gp gn gc] rfl rfl HCL.out (by simp [Value.oneCell']) (by unfold maxLen; omega) (by omega) (by simp; omega) ?_; intro v' w3 hown' hg3 hnil3
         obtain ⟨g', cap', rfl⟩ := ownsRow_succ hown'
         have hap := Boxed.appended hv hte hrow hBs2 (Nat.le_refl _) hown' hg3
         have hc3 := hap.1.cell
         have hf3 := hap.1.frozen
         go_frame)
      | gi_round_op_a)
    exact ⟨hap.2.2.2.1.from _, hap.2.2.2.1.walks, ⟨⟨_, hap.2.1, (by rw [hpf, List.length_append]; exact ⟨hap.2.2.1, trivial⟩)⟩, hB.trans hap.2.2.2.2⟩⟩
  case done =>
    rintro D ys W hD hS ⟨⟨v, hv, hrow, _⟩, hB⟩ hK
    have hc3 := hv.cell
    gi_wp2
    refine ⟨by simp, .inl ⟨_, _, rfl, run_takeDeferred hK, ?_⟩⟩
    exact ⟨_, results_tmp rfl _ _ _, v, ys, rfl, hS, ownsRow_putObj hrow _ hK rfl, hB.trans (belowK_b (w := w) (Nat.le_refl _) W D _ _ (by simp at hD; omega) hK rfl rfl)⟩
  case stop =>
    rintro D c pre W _ _ h _
    exact h.elim

set_option maxRecDepth 100000 in
theorem valsF_ok (mb : Nat) (w : World) : Calls Tryz.prog 89 #[.map (some mb)] w fun e w' => e = .returned (.func (.func 131) #[] #[.pointer (some ⟨w.heap.size, 0, none⟩)]) ∧ w' = w.alloc (.cells #[.map (some mb)] 88) := by
  go_enter Tryz.func89, Tryz.ntmps89
  go_wp2
  go_ret
  exact ⟨rfl, rfl⟩

set_option maxRecDepth 100000 in
theorem collect3 (Bm b nn : Nat) (D0 : DataW Value) (G : K3 → G3) (T : K3 → Option Value) (hT : Pd3 D0 nn T) (hG : Gof T G) (hsz : Maps.size D0 ≤ 100000) (w : World) (hBm : Bm < w.heap.size) (hm : w.cell? ⟨Bm, 0, none⟩ = some (.map (some b))) (hown : w.ownsMap Tryz.prog 83 idK b nn D0) :
    Calls Tryz.prog 88 #[.func (.func 131) #[] #[.pointer (some ⟨Bm, 0, none⟩)]] w fun e w' => ∃ v ss, e = .returned v ∧ V3 D0 (fun _ => false) ss ∧ w'.ownsRow w.heap.size 85 5 v ss.length (flat3 G ss) ∧ Kp (fun _ => False) w w' := by
  have HE : Hid (Calls _ _ _ w _) := callsIn_wide.1 (apvals Bm b nn D0 G T hT hG hsz w hBm hm hown)
  clear hown hm
  go_enter Tryz.func88, Tryz.ntmps88
  go_wp2_with fail
  refine HE.out.mono ?_
  rintro q w' ⟨v, ss, rfl, h1, h2, h3⟩
  have HF : Hid (V3 D0 (fun _ => false) ss ∧ w'.ownsRow w.heap.size 85 5 v ss.length (flat3 G ss) ∧ Kp (fun _ => False) w w') := ⟨h1, h2, Kp.of_below h3⟩
  clear h1 h2 h3 HE
  go_wp2
  go_ret
  exact ⟨v, ss, rfl, HF.out⟩
end Go.Proofs.YtmooddbhcccicaaGreatDoor
