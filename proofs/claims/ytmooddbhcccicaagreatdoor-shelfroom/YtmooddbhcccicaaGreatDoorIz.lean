/- Held: the whole of it. -/
import Derived.Test.YtmooddbhcccicaaGreatDoorIy
import Derived.Deep.AppendSrc
namespace Go.Proofs.YtmooddbhcccicaaGreatDoor
set_option linter.unusedVariables false
set_option linter.unusedSimpArgs false
open Go.RowKit Go.Deep Go.Maps

/-- the cells of what is held -/
def hfl (ps : List (Rc × Value)) : List Value := ps.flatMap fun z => [.int .i64 (z.1.n : Int), .int .i64 (z.1.i : Int), z.2]
theorem hfl_app (a b : List (Rc × Value)) : hfl (a ++ b) = hfl a ++ hfl b := by unfold hfl; rw [List.flatMap_append]
/-- a row of what is held, of one's own, each in bytes of one's own -/
def Hr (w : World) (base : Nat) (v : Value) (ps : List (Rc × Value)) : Prop := w.ownsRow base 97 3 v ps.length (hfl ps) ∧ ∀ z ∈ ps, Ow w base z.2 z.1.b ∧ (∀ x ∈ z.1.b, x < 256) ∧ ∀ b, v.ownBlock = some b → z.2.ownBlock ≠ some b
theorem Hr.nil (w : World) (base : Nat) : Hr w base (.slice none 0 0) [] := ⟨World.ownsRow_nil _ _ _ _, fun z h => absurd h List.not_mem_nil⟩
theorem Hr.keep0 {w w' : World} {base : Nat} {v : Value} {ps : List (Rc × Value)} (h : Hr w base v ps) (k : Kp (fun _ => False) w w') : Hr w' base v ps :=
  ⟨ownsRow_keep h.1 k (fun _ _ e => e), fun z hz => ⟨ownsRow_keep (h.2 z hz).1 k (fun _ _ e => e), (h.2 z hz).2⟩⟩
theorem Hr.keep {S : Nat → Prop} {w w' : World} {base : Nat} {v : Value} {ps : List (Rc × Value)} (h : Hr w base v ps) (k : Kp S w w') (hS : ∀ b, base ≤ b → ¬ S b) : Hr w' base v ps :=
  ⟨ownsRow_keep h.1 k (fun b hb => hS b (ownBlock_lt h.1 hb).1), fun z hz => ⟨ownsRow_keep (h.2 z hz).1 k (fun b hb => hS b (ownBlock_lt (h.2 z hz).1 hb).1), (h.2 z hz).2⟩⟩
theorem Hr.base {w : World} {base base' : Nat} {v : Value} {ps : List (Rc × Value)} (h : Hr w base v ps) (hb : base' ≤ base) : Hr w base' v ps :=
  ⟨ownsRow_base h.1 hb, fun z hz => ⟨ownsRow_base (h.2 z hz).1 hb, (h.2 z hz).2⟩⟩
theorem Hr.app {w w' : World} {base : Nat} {v v' u : Value} {ps : List (Rc × Value)} {r : Rc} (h : Hr w base v ps) (hu : Ow w base u r.b) (hx : ∀ x ∈ r.b, x < 256) (hub : ∀ b, v.ownBlock = some b → u.ownBlock ≠ some b)
    (o : w'.ownsRow base 97 3 v' (ps.length + 1) (hfl ps ++ [.int .i64 (r.n : Int), .int .i64 (r.i : Int), u])) (k : Kp (fun b => v.ownBlock = some b) w w') (hv : v'.ownBlock = v.ownBlock ∨ v'.ownBlock = some w.heap.size) : Hr w' base v' (ps ++ [(r, u)]) := by
  have key : ∀ x z, Ow w base z x → (∀ b, v.ownBlock = some b → z.ownBlock ≠ some b) → Ow w' base z x ∧ ∀ b, v'.ownBlock = some b → z.ownBlock ≠ some b := fun x z ho hb => by
    refine ⟨ownsRow_keep ho k (fun g e e2 => hb g e2 e), fun b e e2 => ?_⟩
    rcases hv with e9 | e9
    · exact hb b (e9.symm.trans e) e2
    · rw [e9] at e
      have := (ownBlock_lt ho e2).2
      injection e with e
      omega
  refine ⟨by rw [List.length_append, hfl_app]; exact o, fun z hz => ?_⟩
  rcases List.mem_append.1 hz with hz | hz
  · obtain ⟨h1, h2, h3⟩ := h.2 z hz
    obtain ⟨h4, h5⟩ := key _ _ h1 h3
    exact ⟨h4, h2, h5⟩
  · rw [List.mem_singleton.1 hz]
    obtain ⟨h4, h5⟩ := key _ _ hu hub
    exact ⟨h4, hx, h5⟩

theorem infoH0 : (Tryz.prog.info? 97).map (fun i => (i.zero.map (·.cells.size), i.size, i.bytes)) = some (some 3, 3, 40) := by kernel_rfl
theorem infoH : ∃ i z, Tryz.prog.info? 97 = some i ∧ i.zero = some z ∧ i.size = 3 ∧ i.bytes = 40 ∧ z.cells.size = 3 := by
  obtain ⟨i, hi, he⟩ := Option.map_eq_some_iff.1 infoH0
  simp only [Prod.mk.injEq] at he
  obtain ⟨h1, h2, h3⟩ := he
  obtain ⟨z, hz, h4⟩ := Option.map_eq_some_iff.1 h1
  exact ⟨i, z, hi, hz, h2, h3, h4⟩
/-- append of one -/
theorem run_app_held (w : World) (base : Nat) (v : Value) (n : Nat) (xs : List Value) (hown : w.ownsRow base 97 3 v n xs) (g : Nat) (a b c : Value) (h1 : a.oneCell' = true ∧ b.oneCell' = true ∧ c.oneCell' = true) (c0 : w.cell? ⟨g, 0, none⟩ = some a) (c1 : w.cell? ⟨g, 1, none⟩ = some b) (c2 : w.cell? ⟨g, 2, none⟩ = some c) (hlen : n ≤ 100000) (hbase : base ≤ w.heap.size) :
    ∃ v' w', (Builtin.append_ #[47, 47] 47 #[v, .slice (some ⟨g, 0, none⟩) 1 1]).run Tryz.prog w = .ok v' w' ∧ w'.ownsRow base 97 3 v' (n + 1) (xs ++ [a, b, c]) ∧ Kp (fun b => v.ownBlock = some b) w w' ∧ (v'.ownBlock = v.ownBlock ∨ v'.ownBlock = some w.heap.size) := by
  obtain ⟨ti, tz, hi0, hz0, hz1, hz2, hz3⟩ := infoH
  obtain ⟨v', w', hrun, h2, h3, h4⟩ := run_append_own_src (P := Tryz.prog) w base 47 47 47 97 ti tz 3 40 Tryz.underlying47 hi0 hz0 hz1 hz2 hz3 (by decide) v n xs hown _ 1 [a, b, c]
    (Src.ofSlice w Tryz.underlying47 ⟨g, 0, none⟩ 1 1 [a, b, c] (by simp) (fun j z hj => by
      rw [Addr.add_mid, Nat.zero_add]
      match j, hj with
      | 0, hj => simp at hj; subst hj; exact c0
      | 1, hj => simp at hj; subst hj; exact c1
      | 2, hj => simp at hj; subst hj; exact c2) (fun z hz => by
      simp at hz
      rcases hz with rfl | rfl | rfl
      · exact h1.1
      · exact h1.2.1
      · exact h1.2.2)) (by unfold maxLen; omega) (by omega) hbase
  exact ⟨v', w', hrun, h2, grownBy_kp h3, h4⟩

/-- the records that are held, in order -/
def hldL (h : List Rc) (ss : List K3) : List Rc := ss.filterMap fun x => if x.k = 1 then (stS h).1 x else none
theorem hldL_snoc (h : List Rc) (ss : List K3) (x : K3) : hldL h (ss ++ [x]) = hldL h ss ++ (match (if x.k = 1 then (stS h).1 x else none) with | some o => [o] | none => []) := by
  unfold hldL
  rw [List.filterMap_append]
  congr 1
  cases hx : (if x.k = 1 then (stS h).1 x else none) <;> simp [hx]
theorem srt3_mem (l : List K3) (x : K3) : x ∈ srt3 l ↔ x ∈ l := (List.mergeSort_perm _ _).mem_iff
theorem take_snoc3 (l : List K3) (j : Nat) (hj : j < l.length) : l.take (j + 1) = l.take j ++ [l.getD j default] := by
  rw [List.take_add_one, List.getD_eq_getElem?_getD, List.getElem?_eq_getElem hj]
  rfl

set_option maxRecDepth 100000 in
set_option maxHeartbeats 1600000 in
/-- what the drawn region asks of its clone and its append -/
theorem held_step {y wr : World} {base : Nat} {v : Value} {ps : List (Rc × Value)} {r : Rc} (hH : Hr wr base v ps) (hb : base ≤ wr.heap.size) (hn : ps.length ≤ 100000) (q : Nat) (p : Option Addr) (cp : Nat) (k0 : Kp (fun _ => False) wr y) (hq : wr.heap.size ≤ q ∧ q < y.heap.size)
    (c1 : y.cell? ⟨q, 1, none⟩ = some (.int .i64 (r.n : Int))) (c2 : y.cell? ⟨q, 2, none⟩ = some (.int .i64 (r.i : Int))) (c4 : y.cell? ⟨q, 4, none⟩ = some (.slice p r.b.length cp)) (hr : Rb y p r.b.length r.b) (hg : r.b.length ≤ 1980) :
    Calls Tryz.prog 13 #[.slice p r.b.length cp] y fun e w9 => ∃ pu cu xh v2 w2, e = .returned (.slice pu r.b.length cu) ∧ (w9.cell? ⟨q, 1, none⟩ = some (.int .i64 (r.n : Int)) ∧ w9.cell? ⟨q, 2, none⟩ = some (.int .i64 (r.i : Int)) ∧ w9.cell? ⟨q, 4, none⟩ = some (.slice p r.b.length cp)) ∧ xh = w9.heap.size ∧
      ((w9.alloc (.cells #[.int .i64 (r.n : Int), .int .i64 (r.i : Int), .slice pu r.b.length cu] 97)).cell? ⟨q, 1, none⟩ = some (.int .i64 (r.n : Int)) ∧ (w9.alloc (.cells #[.int .i64 (r.n : Int), .int .i64 (r.i : Int), .slice pu r.b.length cu] 97)).cell? ⟨q, 2, none⟩ = some (.int .i64 (r.i : Int)) ∧ (w9.alloc (.cells #[.int .i64 (r.n : Int), .int .i64 (r.i : Int), .slice pu r.b.length cu] 97)).cell? ⟨q, 4, none⟩ = some (.slice p r.b.length cp)) ∧
      (Builtin.append_ #[47, 47] 47 #[v, .slice (some ⟨xh, 0, none⟩) 1 1]).run Tryz.prog (w9.alloc (.cells #[.int .i64 (r.n : Int), .int .i64 (r.i : Int), .slice pu r.b.length cu] 97)) = .ok v2 w2 ∧
      (w2.cell? ⟨q, 1, none⟩ = some (.int .i64 (r.n : Int)) ∧ w2.cell? ⟨q, 2, none⟩ = some (.int .i64 (r.i : Int)) ∧ w2.cell? ⟨q, 4, none⟩ = some (.slice p r.b.length cp)) ∧
      (∃ u, Hr w2 base v2 (ps ++ [(r, u)])) ∧ Kp (fun b => v.ownBlock = some b) wr w2 := by
  refine (clone_any p r.b.length cp r.b y hr (show r.b.length ≤ 140737488355328 by omega)).mono ?_
  rintro e9 w9 ⟨u, rfl, k9, o9⟩
  obtain ⟨pu, cu, rfl⟩ := own_form o9
  obtain ⟨w8, hw8⟩ : ∃ z, z = w9.alloc (.cells #[.int .i64 (r.n : Int), .int .i64 (r.i : Int), .slice pu r.b.length cu] 97) := ⟨_, rfl⟩
  have k8 : Kp (fun _ => False) w9 w8 := by rw [hw8]; exact (Kp.refl _ _).alloc _
  have l8 : Lv w8 w9.heap.size [.int .i64 (r.n : Int), .int .i64 (r.i : Int), .slice pu r.b.length cu] := by rw [hw8]; exact Lv.new w9 _ _
  have kr8 : Kp (fun _ => False) wr w8 := (k0.trans k9 (fun _ _ e => e)).trans k8 (fun _ _ e => e)
  have h8 := hH.keep0 kr8
  have z0 := k0.size
  have z9 := k9.size
  have z8 := k8.size
  obtain ⟨v2, w2, hrun, ho, kp, hv⟩ := run_app_held w8 base v ps.length (hfl ps) h8.1 w9.heap.size (.int .i64 (r.n : Int)) (.int .i64 (r.i : Int)) (.slice pu r.b.length cu) ⟨rfl, rfl, rfl⟩ (l8.cell (j := 0) rfl) (l8.cell (j := 1) rfl) (l8.cell (j := 2) rfl) hn (by omega)
  have hvq : ∀ x, wr.heap.size ≤ x → ¬ v.ownBlock = some x := fun x hx e => by
    have := (ownBlock_lt hH.1 e).2
    omega
  have k9c : ∀ j u, y.cell? ⟨q, j, none⟩ = some u → w9.cell? ⟨q, j, none⟩ = some u := fun j u hc => k9.cellv hc id
  have k8c : ∀ j u, y.cell? ⟨q, j, none⟩ = some u → w8.cell? ⟨q, j, none⟩ = some u := fun j u hc => k8.cellv (k9c j u hc) id
  have k2c : ∀ j u, y.cell? ⟨q, j, none⟩ = some u → w2.cell? ⟨q, j, none⟩ = some u := fun j u hc => kp.cellv (k8c j u hc) (hvq q hq.1)
  have o8 : Ow w8 base (.slice pu r.b.length cu) r.b := ownsRow_base (ownsRow_keep o9 k8 (fun _ _ e => e)) (by omega)
  refine ⟨pu, cu, _, v2, w2, rfl, ⟨k9c 1 _ c1, k9c 2 _ c2, k9c 4 _ c4⟩, rfl, ?_, ?_, ⟨k2c 1 _ c1, k2c 2 _ c2, k2c 4 _ c4⟩, ⟨_, h8.app o8 hr.byte (fun b hb e => ?_) ho kp hv⟩, (kr8.mono (fun _ _ e => e.elim)).trans kp (fun _ _ e => e)⟩
  · rw [← hw8]; exact ⟨k8c 1 _ c1, k8c 2 _ c2, k8c 4 _ c4⟩
  · rw [← hw8]; exact hrun
  · have h1 := (ownBlock_lt o9 e).1
    have h2 := (ownBlock_lt hH.1 hb).2
    omega

set_option maxRecDepth 100000 in
set_option maxHeartbeats 6400000 in
theorem held_ok {w : World} {Z : Nat → Prop} {sh mp g : Nat} {h : List Rc} (x : Sk w Z sh mp g h) :
    Calls Tryz.prog 16 #[.pointer (some ⟨sh, 0, none⟩)] w fun e w' => ∃ v ps ss, e = .returned v ∧ Kp (fun _ => False) w w' ∧ Hr w' w.heap.size v ps ∧ Ths h ss ∧ ps.map Prod.fst = hldL h (srt3 ss) := by
  have c0 : w.cell? ⟨sh, 0, none⟩ = some (.pointer (some ⟨g, 0, none⟩)) := x.l.cell (j := 0) rfl
  have HM : Hid (Calls _ _ _ w _) := smade_ok c0
  have HA : Hid (Calls _ _ _ w _) := sall_ok x
  have HX : Hid (Sk w Z sh mp g h) := x
  clear x
  go_enter Tryz.func16, Tryz.ntmps16
  go_wp2_with fail
  refine HM.out.mono ?_
  rintro e9 w9 ⟨rfl, hw9⟩
  have hw8 := hw9.symm
  subst hw8
  clear hw9 HM
  go_wp2_with fail
  refine HA.out.mono ?_
  rintro e9 w2 ⟨v2, ss, G, rfl, k2, r2, hT, hG⟩
  have HLn : Hid ((srt3 ss).length ≤ 1000) := by rw [show Hid ((srt3 ss).length ≤ 1000) = ((srt3 ss).length ≤ 1000) from rfl, srt3_len]; exact hT.len HX.out
  obtain ⟨L, hL⟩ : ∃ L, L = srt3 ss := ⟨_, rfl⟩
  rw [← hL] at r2 HLn
  obtain ⟨pp, cc, rfl, hc⟩ := r2
  have HR : Hid (∀ j, j < L.length → ∃ g o, pp = some ⟨g, o, none⟩ ∧ w.heap.size ≤ g ∧ ∀ r u, (cE G (L.getD j default))[r]? = some u → w2.cell? ⟨g, o + j * 5 + r, none⟩ = some u) := hc
  have HGo : Hid (∀ j, j < L.length → ∃ o, (stS h).1 (L.getD j default) = some o ∧ (L.getD j default).k = (o.k : Int) ∧ (L.getD j default).n = (o.n : Int) ∧ (L.getD j default).i = (o.i : Int) ∧ (G (L.getD j default)).e = (o.e : Int) ∧ (G (L.getD j default)).n = o.b.length ∧ Rb w2 (G (L.getD j default)).p o.b.length o.b ∧ o.b.length ≤ 1980) := fun j hj => by
    have hm : L.getD j default ∈ ss := by
      rw [← srt3_mem, ← hL, List.getD_eq_getElem?_getD, List.getElem?_eq_getElem hj]
      exact List.getElem_mem hj
    obtain ⟨hw, o, ho⟩ := (hT.2 _).1 hm
    obtain ⟨a1, a2, a3, a4, a5, a6, a7, a8⟩ := hG _ o hw ho
    exact ⟨o, ho, a1, a2, a3, a4, a5, a6.keep0 k2, a8.bl⟩
  have HF : Hid (Ths h ss ∧ L = srt3 ss ∧ Kp (fun _ => False) w w2) := ⟨hT, hL, k2⟩
  obtain ⟨n, hn⟩ : ∃ n, n = L.length := ⟨_, rfl⟩
  have HN : Hid (n = L.length ∧ n ≤ 1000) := ⟨hn, by rw [hn]; exact HLn.out⟩
  rw [← hn] at HR HGo
  rw [← hn]
  clear hc hG hT hL k2 HLn HA HX hn
  go_wp2_with fail
  go_loopg [3, 14] n (fun gk v iv wr => ∃ (j : Nat) (v1 : Value) (ps : List (Rc × Value)), j ≤ n ∧ gk = n - j ∧ v = v1 ∧ iv = .int .i64 (j : Int) ∧ Hid (Kp (fun _ => False) w2 wr ∧ Hr wr w2.heap.size v1 ps ∧ ps.map Prod.fst = hldL h (L.take j)))
  case atStart => exact ⟨0, _, [], Nat.zero_le _, rfl, rfl, rfl, Kp.refl _ _, Hr.nil _ _, rfl⟩
  case round =>
    obtain ⟨j, v1, ps, hj, rfl, hvv, rfl, HK⟩ := hrel
    have hv2 := hvv.symm
    subst hv2
    clear hvv
    by_cases hlt : j < n
    · have hlt2 : (j : Int) < (n : Int) := by omega
      obtain ⟨g0, o0, hpp, hz0, hcs⟩ := HR.out j hlt
      obtain ⟨o, ho, a1, a2, a3, a4, a5, a6, a7⟩ := HGo.out j hlt
      have hjL : j < L.length := by rw [← HN.out.1]; exact hlt
      have HSn : Hid (hldL h (L.take (j + 1)) = hldL h (L.take j) ++ (match (if (L.getD j default).k = 1 then (stS h).1 (L.getD j default) else none) with | some o => [o] | none => [])) := by
        rw [take_snoc3 L j hjL, hldL_snoc]; exact rfl
      obtain ⟨y, hy⟩ : ∃ y, y = L.getD j default := ⟨_, rfl⟩
      rw [← hy] at ho a1 a2 a3 a4 a5 a6 hcs HSn
      obtain ⟨⟨ge, gp, gn, gc⟩, hgy⟩ : ∃ z, z = G y := ⟨_, rfl⟩
      have hk : Kp (fun _ => False) w2 wr := HK.out.1
      have q0 := hk.cellv (hcs 0 _ rfl) id
      have q1 := hk.cellv (hcs 1 _ rfl) id
      have q2 := hk.cellv (hcs 2 _ rfl) id
      have q3 := hk.cellv (hcs 3 _ rfl) id
      have q4 := hk.cellv (hcs 4 _ rfl) id
      rw [← hgy] at q3 q4 a4 a5 a6
      dsimp only at q3 q4 a4 a5 a6
      rw [a1] at q0
      rw [a2] at q1
      rw [a3] at q2
      rw [a4] at q3
      rw [a5] at q4
      rw [Nat.add_zero] at q0
      subst hpp
      have HO : Hid ((stS h).1 y = some o ∧ (y.k = (o.k : Int)) ∧ Rb wr gp o.b.length o.b ∧ o.b.length ≤ 1980 ∧ j < n ∧ n ≤ 1000) := ⟨ho, a1, a6.keep0 hk, a7, hlt, HN.out.2⟩
      clear hcs ho a1 a2 a3 a4 a5 a6 a7 hgy hk hy hlt hz0 hjL
      have hw1 : wrap64 ((j : Int) + 1) = ((j + 1 : Nat) : Int) := by have := HO.out.2.2.2.2; unfold wrap64; omega
      by_cases hk1 : o.k = 1
      · have hk2 : (o.k : Int) = 1 := by omega
        rw [hk2] at q0
        have HS2 : Hid (hldL h (L.take (j + 1)) = hldL h (L.take j) ++ [o]) := by
          show _ = _
          rw [HSn.out, HO.out.2.1, if_pos hk2, HO.out.1]
        clear HSn
        go_upto_region 8 with fail
        obtain ⟨wb, hwb⟩ : ∃ z, z = wr.alloc (.cells #[.int .i64 1, .int .i64 (o.n : Int), .int .i64 (o.i : Int), .int .i64 (o.e : Int), .slice gp o.b.length gc] 85) := ⟨_, rfl⟩
        rw [← hwb]
        have kb : Kp (fun _ => False) wr wb := by rw [hwb]; exact (Kp.refl _ _).alloc _
        have lb : Lv wb wr.heap.size [.int .i64 1, .int .i64 (o.n : Int), .int .i64 (o.i : Int), .int .i64 (o.e : Int), .slice gp o.b.length gc] := by rw [hwb]; exact Lv.new wr _ _
        have hzb : wb.heap.size = wr.heap.size + 1 := by rw [hwb]; simp
        have kd : Kp (fun _ => False) wb wb.drew := (Kp.refl _ _).drew
        have ld : Lv wb.drew wr.heap.size [.int .i64 1, .int .i64 (o.n : Int), .int .i64 (o.i : Int), .int .i64 (o.e : Int), .slice gp o.b.length gc] := lb.keep kd id
        have hlen : ps.length ≤ 1000 := by
          have h1 := congrArg List.length HK.out.2.2
          rw [List.length_map] at h1
          have h2 : (hldL h (L.take j)).length ≤ (L.take j).length := List.length_filterMap_le _ _
          rw [List.length_take] at h2
          have := HO.out.2.2.2.2
          omega
        have hst := held_step (y := wb.drew) HK.out.2.1 HK.out.1.size (by omega) wr.heap.size gp gc (kb.trans kd (fun _ _ e => e)) ⟨Nat.le_refl _, by show wr.heap.size < wb.heap.size; omega⟩ (ld.cell (j := 1) rfl) (ld.cell (j := 2) rfl) (ld.cell (j := 4) rfl) (HO.out.2.2.1.keep0 (kb.trans kd (fun _ _ e => e))) HO.out.2.2.2.1
        refine hd8_region ⟨by kernel_rfl, by kernel_rfl, by kernel_rfl, by kernel_rfl, by kernel_rfl, by kernel_rfl, by kernel_rfl, by kernel_rfl, by kernel_rfl, by kernel_rfl, by kernel_rfl, by kernel_rfl, by kernel_rfl, by kernel_rfl, by kernel_rfl, by kernel_rfl, by kernel_rfl, by kernel_rfl, by kernel_rfl, by kernel_rfl, by kernel_rfl, by kernel_rfl, by kernel_rfl⟩ wr.heap.size v1 (o.n : Int) (o.i : Int) gp o.b.length gc none 0 undef 0 (fun d _ _ _ _ h => by cases d <;> exact h) (by rfl) (by rfl) (by rfl) ⟨ld.cell (j := 1) rfl, ld.cell (j := 2) rfl, ld.cell (j := 4) rfl⟩ (fun v2 wz => (∃ u, Hr wz w2.heap.size v2 (ps ++ [(o, u)])) ∧ Kp (fun b => v1.ownBlock = some b) wr wz) hst ?_
        rintro pu cu xh v9 w9 ⟨⟨u, hu⟩, k9⟩
        have HF9 : Hid (Kp (fun _ => False) w2 w9 ∧ Hr w9 w2.heap.size v9 (ps ++ [(o, u)]) ∧ (ps ++ [(o, u)]).map Prod.fst = hldL h (L.take (j + 1))) := by
          refine ⟨HK.out.1.trans k9 (fun b hb e => ?_), hu, ?_⟩
          · have := (ownBlock_lt HK.out.2.1.1 e).1
            omega
          · rw [List.map_append, HK.out.2.2, HS2.out]
            rfl
        have HJ : Hid (j < n) := HO.out.2.2.2.2.1
        clear hst k9 hu kd ld kb lb hwb hzb hlen q0 q1 q2 q3 q4 HK HO HS2 hlt2
        simp only [Act.put, List.setIfInBounds_toArray, List.set_cons_succ, List.set_cons_zero]
        go_wp2
        go_roundg (n - (j + 1))
        case rel => exact ⟨j + 1, v9, ps ++ [(o, u)], HJ.out, rfl, rfl, by first | rw [hw1] | simp, HF9.out⟩
        case measure => have := HJ.out; omega
      · have hk2 : ¬ (o.k : Int) = 1 := by omega
        have hk3 : ((o.k : Int) == 1) = false := by simp [hk2]
        have HS2 : Hid (hldL h (L.take (j + 1)) = hldL h (L.take j)) := by
          show _ = _
          rw [HSn.out, HO.out.2.1, if_neg hk2]
          exact List.append_nil _
        clear HSn
        go_wp2_with fail
        obtain ⟨wb, hwb⟩ : ∃ z, z = wr.alloc (.cells #[.int .i64 (o.k : Int), .int .i64 (o.n : Int), .int .i64 (o.i : Int), .int .i64 (o.e : Int), .slice gp o.b.length gc] 85) := ⟨_, rfl⟩
        rw [← hwb]
        have kb : Kp (fun _ => False) wr wb := by rw [hwb]; exact (Kp.refl _ _).alloc _
        have HF9 : Hid (Kp (fun _ => False) w2 wb ∧ Hr wb w2.heap.size v1 ps ∧ ps.map Prod.fst = hldL h (L.take (j + 1))) := ⟨HK.out.1.trans kb (fun _ _ e => e), HK.out.2.1.keep0 kb, by rw [HS2.out]; exact HK.out.2.2⟩
        have HJ : Hid (j < n) := HO.out.2.2.2.2.1
        clear kb hwb q0 q1 q2 q3 q4 HK HO HS2 hlt2
        go_roundg (n - (j + 1))
        case rel => exact ⟨j + 1, v1, ps, HJ.out, rfl, rfl, by first | rw [hw1] | simp, HF9.out⟩
        case measure => have := HJ.out; omega
    · have hjn : j = n := by omega
      subst hjn
      have hlt2 : ¬ ((j : Int) < (j : Int)) := by omega
      have HE : Hid (Ths h ss ∧ Kp (fun _ => False) w wr ∧ Hr wr w.heap.size v1 ps ∧ ps.map Prod.fst = hldL h (srt3 ss)) := by
        refine ⟨HF.out.1, HF.out.2.2.trans HK.out.1 (fun _ _ e => e), HK.out.2.1.base HF.out.2.2.size, ?_⟩
        rw [HK.out.2.2, ← HF.out.2.1, List.take_of_length_le (Nat.le_of_eq HN.out.1.symm)]
      clear HK HR HGo HF
      go_wp2
      go_ret
      exact ⟨v1, rfl, HE.out.2.1, ps, HE.out.2.2.1, ss, HE.out.1, HE.out.2.2.2⟩
end Go.Proofs.YtmooddbhcccicaaGreatDoor
