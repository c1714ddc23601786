/- A stock written anew: in memory. -/
import Derived.Test.YtippipeebkkghaaGreatDoorJro
import Derived.Test.YtippipeebkkghaaGreatDoorJre
import Derived.Test.YtippipeebkkghaaGreatDoorBu
namespace Go.Proofs.YtippipeebkkghaaGreatDoor
set_option linter.unusedVariables false
set_option linter.unusedSimpArgs false
open Go.RowKit Go.Deep Go.Maps

noncomputable instance decLit9 : DecidableEq Lit := fun _ _ => Classical.propDecidable _

theorem own_form1 {w : World} {base n : Nat} {e : TypeId} {v : Value} {xs : List Value} (h : w.ownsRow base e 1 v n xs) : ∃ q c, v = .slice q n c ∧ (0 < n → ∃ g, q = some ⟨g, 0, none⟩ ∧ ∀ j u, xs[j]? = some u → w.cell? ⟨g, j, none⟩ = some u) := by
  rcases h.2 with ⟨rfl, rfl⟩ | ⟨g, cap, cur, rfl, hb, hh, hn, _, hcs, htk⟩
  · exact ⟨none, 0, rfl, fun h => absurd h (Nat.lt_irrefl _)⟩
  · refine ⟨_, cap, rfl, fun _ => ⟨g, rfl, fun j u hu => ?_⟩⟩
    have hj : j < n := by have := (List.getElem?_eq_some_iff.1 hu).1; rw [h.1] at this; omega
    rw [← htk, List.getElem?_take_of_lt (by omega), Array.getElem?_toList] at hu
    simp [World.cell?, hh, hu]

theorem px3_len {w : World} {m c : Nat} {D : DataW Value} {T : K3 → Option Value} (hown : w.ownsMap Tryz.prog 120 idK m c D) (hd : Pd3 D c T) {ss : List K3} (hs : ∀ a, wf3 a → (∃ v, T a = some v) → a ∈ ss) : c ≤ ss.length := by
  obtain ⟨es, rfl, hp, hkl⟩ := hown.entries p3Law
  have h1 : (es.map Prod.fst).length ≤ (ss.map pk3).length := by
    refine len_sub _ _ (List.pairwise_map.2 hp) (fun y hy => ?_)
    obtain ⟨q, hq, rfl⟩ := List.mem_map.1 hy
    have hh : Maps.has (DataW.map es) q.1 = true := by
      rw [has_eq, List.any_eq_true]
      exact ⟨q, hq, WideAt.sameKey_self (hkl q hq)⟩
    obtain ⟨a, ha, e⟩ := hd.keys _ hh
    rw [e]
    refine List.mem_map_of_mem (hs a ha ?_)
    cases hT : T a with
    | none => rw [e, hd.no a ha hT] at hh; cases hh
    | some v => exact ⟨v, rfl⟩
  rw [List.length_map, List.length_map] at h1
  rw [← hd.size]
  exact h1

theorem sub_wf {o : Rc} (hg : GoodR o) : wf3 (subS o) := by
  obtain ⟨⟨k1, k2⟩, n1, i1, _⟩ := hg
  unfold subS
  split
  · exact ⟨wf_n60 (n := 1) (by omega), wf_n60 n1, wf_n60 i1⟩
  · exact ⟨wf_n60 (by omega), wf_n60 n1, wf_n60 i1⟩

theorem Sk.wf {w : World} {Z : Nat → Prop} {sh mp g : Nat} {h : List Rc} (x : Sk w Z sh mp g h) : ∀ y o, (stS h).1 y = some o → wf3 y := fun y o ho => by
  rw [(stS_sub h y o ho).1]
  exact sub_wf (x.g o ((stS_bd x.g x.n).2.2 y o ho))

/-- a stock is one of what counts -/
theorem Sk.anew {w : World} {Z : Nat → Prop} {sh mp g : Nat} {h : List Rc} (x : Sk w Z sh mp g h) {ss : List K3} (hs : Ths h ss) : Sk w Z sh mp g (ckL h ss) := by
  obtain ⟨e1, e2⟩ := ckL_same hs x.wf
  have hl : (ckL h ss).length = ss.length := by
    rw [← List.length_map (f := subS), (ckL_dst hs).2, srt3_len]
  obtain ⟨c, T, hc, ⟨D, hown, hd⟩, hT⟩ := x.m
  refine ⟨by rw [e2]; exact x.l, ⟨c, T, ?_, ⟨D, hown, hd⟩, fun y hy => by rw [e1]; exact hT y hy⟩, fun r hr => ?_, by rw [hl]; exact hs.len x⟩
  · rw [hl]
    refine px3_len hown hd (fun a ha ⟨v, hv⟩ => (hs.2 a).2 ⟨ha, ?_⟩)
    cases ho : (stS h).1 a with
    | none => rw [(hT a ha).1 ho] at hv; cases hv
    | some o => exact ⟨o, rfl⟩
  · exact x.g r ((stS_bd x.g x.n).2.2 _ r (ckL_mem hs hr).1)

theorem ckL_tot {w : World} {Z : Nat → Prop} {sh mp g : Nat} {h : List Rc} (x : Sk w Z sh mp g h) {ss : List K3} (hs : Ths h ss) : (totW ((ckL h ss).map wrS) : Int) = (stS h).2 := by
  rw [dst_tot (ckL_dst hs).1, (ckL_same hs x.wf).2]

/-- rows of bytes of their own, as a checkpoint's -/
theorem Rw.txs {w : World} {base : Nat} {v : Value} {recs : List (List Nat)} (h : Rw w base v recs) {F : Nat → Prop} (hF : ∀ b, base ≤ b → b < w.heap.size → ¬ F b) (hb : ∀ ys ∈ recs, ∀ z ∈ ys, z < 256) : ∃ p c, v = .slice p recs.length c ∧ Txs F w p recs := by
  obtain ⟨vs, h1, h2, h3⟩ := h
  obtain ⟨q, c, rfl, hq⟩ := own_form1 h1
  refine ⟨q, c, rfl, fun r hr => ?_⟩
  obtain ⟨b, rfl, hc⟩ := hq (by omega)
  have hx : recs[r]? = some (recs.getD r []) := by rw [List.getD_eq_getElem?_getD, List.getElem?_eq_getElem hr]; rfl
  have hu : vs[r]? = some (vs[r]'(by omega)) := List.getElem?_eq_getElem (by omega)
  have hbl : base ≤ b ∧ b < w.heap.size := ownBlock_lt h1 rfl
  obtain ⟨ho, _⟩ := h3 r _ _ hx hu
  have hm : recs.getD r [] ∈ recs := List.mem_of_getElem? hx
  obtain ⟨p9, c9, e9, hc9, hr9, hb9⟩ := ho.rb (hb _ hm)
  refine ⟨b, 0, rfl, hF b hbl.1 hbl.2, p9, c9, ?_, hr9, hc9, fun z hz _ => ?_⟩
  · rw [Nat.zero_add, ← e9]
    exact hc r _ hu
  · obtain ⟨a1, a2⟩ := hb9 z hz
    exact hF _ a1 (ownBlock_lt ho a2).2

/-- what a checkpoint of what counts gives -/
structure Ckd (w wz : World) (g bp d m gf s a b c e lt : Nat) (h : List Rc) : Prop where
  k : Kp (fun x => x = d ∨ x = m ∨ x = g ∨ x = gf) w wz
  r : ∃ ss gf' dur', Ths h ss ∧ w.heap.size ≤ gf' ∧ Lg wz g bp d m gf' s 0 (a + 1) b ((c + totW (h.map wrS)) % s) (lt + 1) (lt + (ckL h ss).length) (ckL h ss).length ((ckL h ss).map wrS) dur' (fun _ => none)

theorem sck_ok {w u : World} {Z : Nat → Prop} {sh mp g bp d m gf s q a b c e lt y : Nat} {h : List Rc} {dur : List Nat} {T : Nat → Option (List Nat)} {v : Value} {ss : List K3} (hl : Lg w g bp d m gf s q a b c e lt y (h.map wrS) dur T) (x : Sk w Z sh mp g h) (htu : Turns w) (hk : Kp (fun _ => False) w u) (hr : Rw u w.heap.size v ((ckL h ss).map wrS)) (hs : Ths h ss)
    (hroom : (totW (h.map wrS) : Int) + (stS h).2 ≤ (s : Int)) (ha : a < 1152921504606846976) (hlt : lt + 1 + s < 1152921504606846976) :
    Calls Tryz.prog 84 #[.pointer (some ⟨g, 0, none⟩), v] u fun e9 w' => e9 = .returned (.int .i64 0) ∧ Ckd w w' g bp d m gf s a b c e lt h := by
  have hgo : ∀ r ∈ ckL h ss, GoodR r := (x.anew hs).g
  have hfine : ∀ ys ∈ (ckL h ss).map wrS, 1 ≤ ys.length ∧ ys.length ≤ 2000 := fun ys hy => by
    obtain ⟨r, hr2, rfl⟩ := List.mem_map.1 hy
    exact ⟨(wrS_len (hgo r hr2)).1, (wrS_len (hgo r hr2)).2.1⟩
  have hbk := hl.blk
  obtain ⟨p, cp, rfl, htx⟩ := hr.txs (F := fun x => x = d ∨ x = m ∨ x = g ∨ x = gf ∨ u.heap.size ≤ x) (fun b hb hb2 e => by omega) (fun ys hy => by
    obtain ⟨r, hr2, rfl⟩ := List.mem_map.1 hy
    exact wrS_b (hgo r hr2))
  have htot := ckL_tot x hs
  have hln : (ckL h ss).length ≤ 1000 := (x.anew hs).n
  refine (checkpoint_ok (hl.keep0 hk) p _ cp rfl (by rw [List.length_map]; omega) htx ha hlt (htu.keep0 hk)).mono ?_
  rintro e9 w' (⟨h1, _, _⟩ | ⟨_, h1, _, _⟩ | ⟨_, _, rfl, k, gf', dur', hg, l⟩)
  · exact absurd hfine h1
  · omega
  · refine ⟨rfl, (hk.mono (fun _ _ e => e.elim)).trans k (fun _ _ e => e), ss, gf', dur', hs, Nat.le_trans hk.size hg, ?_⟩
    rw [List.length_map] at l
    exact l
end Go.Proofs.YtippipeebkkghaaGreatDoor
