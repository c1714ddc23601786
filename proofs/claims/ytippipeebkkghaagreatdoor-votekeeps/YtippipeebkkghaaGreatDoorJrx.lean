/- A shelf's Notes. -/
import Derived.Test.YtippipeebkkghaaGreatDoorJrv
namespace Go.Proofs.YtippipeebkkghaaGreatDoor
set_option linter.unusedVariables false
set_option linter.unusedSimpArgs false
open Go.RowKit Go.Deep Go.Maps

/-- the numbers of notes -/
def ntsL (ss : List K3) : List Int := (ss.filter fun x => decide (x.k = 4)).map K3.n

theorem ntsL_snoc (ss : List K3) (x : K3) : ntsL (ss ++ [x]) = ntsL ss ++ (if x.k = 4 then [x.n] else []) := by
  unfold ntsL
  rw [List.filter_append, List.map_append]
  congr 1
  by_cases h : x.k = 4
  · rw [if_pos h]; simp [h]
  · rw [if_neg h]; simp [h]

theorem ntsL_len (ss : List K3) : (ntsL ss).length ≤ ss.length := by
  unfold ntsL
  rw [List.length_map]
  exact List.length_filter_le _ _

/-- numbers of one's own -/
abbrev Oi (w : World) (base : Nat) (v : Value) (zs : List Int) : Prop := w.ownsRow base 3 1 v zs.length (zs.map (Value.int .i64))

theorem info_in : (Tryz.prog.info? 3).map (fun i => (i.zero, i.size, i.bytes)) = some (some (.int .i64 0), 1, 8) := by kernel_rfl

theorem wpList_append_in {ops : Array Oper} {rest : List Oper} {o : Oper} {a : Act} {Q : Exit → Act → World → Prop} (w : World) (hgd : o.guard = none) (s y : Operand)
    (ho : o.op = .call { callee := .builtin .append, args := #[s, y], argTypes := #[29, 29] }) (base : Nat) (v : Value) (xs : List Int) (x : Int) (g : Nat)
    (hs : a.eval s = v) (hown : Oi w base v xs) (hx : a.eval y = .slice (some ⟨g, 0, none⟩) 1 1) (hc : w.cell? ⟨g, 0, none⟩ = some (.int .i64 x)) (hlen : xs.length ≤ 1000) (hbase : base ≤ w.heap.size)
    (h : ∀ v' w', Oi w' base v' (xs ++ [x]) → Kp (fun b => v.ownBlock = some b) w w' → wpList Tryz.prog ops Q rest (a.put o.dst v') w') :
    wpList Tryz.prog ops Q (o :: rest) a w := by
  obtain ⟨ti, hi0, hz0, hz1, hz2⟩ := info_parts info_in
  refine wpList_append_own_src w hgd s y 29 29 ho base 3 ti (.int .i64 0) 1 8 Tryz.underlying29 hi0 hz0 hz1 hz2 rfl (by decide) v xs.length (xs.map (Value.int .i64)) hs hown _ 1 [.int .i64 x] hx
    (Src.ofSlice w Tryz.underlying29 _ 1 1 [.int .i64 x] (by simp) (fun j u hj => ?_) (fun u hu => ?_)) (by unfold maxLen; omega) (by omega) hbase ?_
  · have hj0 : j = 0 := by
      have := (List.getElem?_eq_some_iff.1 hj).1
      simp at this
      exact this
    subst hj0
    simp at hj
    subst hj
    simpa [Addr.add] using hc
  · simp at hu
    subst hu
    rfl
  · intro v' w' h1 h2 _
    refine h v' w' ?_ (grownBy_kp h2)
    show w'.ownsRow _ _ _ _ (xs ++ [x]).length _
    rw [List.length_append, List.map_append]
    exact h1

set_option maxRecDepth 100000 in
set_option maxHeartbeats 6400000 in
theorem snotes_ok {w : World} {Z : Nat → Prop} {sh mp g : Nat} {h : List Rc} (x : Sk w Z sh mp g h) :
    Calls Tryz.prog 33 #[.pointer (some ⟨sh, 0, none⟩)] w fun e w' => ∃ v ss, e = .returned v ∧ Kp (fun _ => False) w w' ∧ Oi w' w.heap.size v (ntsL (srt3 ss)) ∧ Ths h ss := by
  have c0 : w.cell? ⟨sh, 0, none⟩ = some (.pointer (some ⟨g, 0, none⟩)) := x.l.cell (j := 0) rfl
  have HM : Hid (Calls _ _ _ w _) := smade_ok c0
  have HA : Hid (Calls _ _ _ w _) := sall_ok x
  have HX : Hid (Sk w Z sh mp g h) := x
  clear x
  go_enter Tryz.func33, Tryz.ntmps33
  go_wp2_with fail
  refine HM.out.mono ?_
  rintro e9 w9 ⟨rfl, hw9⟩
  have hw8 := hw9.symm
  subst hw8
  clear hw9 HM
  go_wp2_with fail
  refine HA.out.mono ?_
  rintro e9 w2 ⟨v2, ss, G, rfl, k2, r2, hT, hG⟩
  have HLn : Hid ((srt3 ss).length ≤ 1000) := by rw [show Hid ((srt3 ss).length ≤ 1000) = ((srt3 ss).length ≤ 1000) from rfl, srt3_len]; exact hT.len HX.out
  obtain ⟨L, hL⟩ : ∃ L, L = srt3 ss := ⟨_, rfl⟩
  rw [← hL] at r2 HLn
  obtain ⟨pp, cc, rfl, hc⟩ := r2
  have HR : Hid (∀ j, j < L.length → ∃ g o, pp = some ⟨g, o, none⟩ ∧ w.heap.size ≤ g ∧ ∀ r u, (cE G (L.getD j default))[r]? = some u → w2.cell? ⟨g, o + j * 5 + r, none⟩ = some u) := hc
  have HGo : Hid (∀ j, j < L.length → ∃ o, (stS h).1 (L.getD j default) = some o ∧ (L.getD j default).k = (o.k : Int) ∧ (L.getD j default).n = (o.n : Int) ∧ (L.getD j default).i = (o.i : Int) ∧ (G (L.getD j default)).e = (o.e : Int) ∧ (G (L.getD j default)).n = o.b.length ∧ Rb w2 (G (L.getD j default)).p o.b.length o.b ∧ o.b.length ≤ 1980) := fun j hj => by
    have hm : L.getD j default ∈ ss := by
      rw [← srt3_mem, ← hL, List.getD_eq_getElem?_getD, List.getElem?_eq_getElem hj]
      exact List.getElem_mem hj
    obtain ⟨hw, o, ho⟩ := (hT.2 _).1 hm
    obtain ⟨a1, a2, a3, a4, a5, a6, a7, a8⟩ := hG _ o hw ho
    exact ⟨o, ho, a1, a2, a3, a4, a5, a6.keep0 k2, a8.bl⟩
  have HF : Hid (Ths h ss ∧ L = srt3 ss ∧ Kp (fun _ => False) w w2) := ⟨hT, hL, k2⟩
  obtain ⟨n, hn⟩ : ∃ n, n = L.length := ⟨_, rfl⟩
  have HN : Hid (n = L.length ∧ n ≤ 1000) := ⟨hn, by rw [hn]; exact HLn.out⟩
  rw [← hn] at HR HGo
  rw [← hn]
  clear hc hG hT hL k2 HLn HA HX hn
  go_wp2_with fail
  go_loopg [3, 14] n (fun gk v iv wr => ∃ (j : Nat) (v1 : Value), j ≤ n ∧ gk = n - j ∧ v = v1 ∧ iv = .int .i64 (j : Int) ∧ Hid (Kp (fun _ => False) w2 wr ∧ Oi wr w2.heap.size v1 (ntsL (L.take j))))
  case atStart => exact ⟨0, _, Nat.zero_le _, rfl, rfl, rfl, Kp.refl _ _, World.ownsRow_nil _ _ _ _⟩
  case round =>
    obtain ⟨j, v1, hj, rfl, hvv, rfl, HK⟩ := hrel
    have hv2 := hvv.symm
    subst hv2
    clear hvv
    by_cases hlt : j < n
    · have hlt2 : (j : Int) < (n : Int) := by omega
      obtain ⟨g0, o0, hpp, hz0, hcs⟩ := HR.out j hlt
      obtain ⟨o, ho, a1, a2, a3, a4, a5, a6, a7⟩ := HGo.out j hlt
      have hjL : j < L.length := by rw [← HN.out.1]; exact hlt
      have HSn : Hid (ntsL (L.take (j + 1)) = ntsL (L.take j) ++ (if (L.getD j default).k = 4 then [(L.getD j default).n] else [])) := by
        rw [take_snoc3 L j hjL, ntsL_snoc]; exact rfl
      obtain ⟨y, hy⟩ : ∃ y, y = L.getD j default := ⟨_, rfl⟩
      rw [← hy] at ho a1 a2 a3 a4 a5 a6 hcs HSn
      obtain ⟨⟨ge, gp, gn, gc⟩, hgy⟩ : ∃ z, z = G y := ⟨_, rfl⟩
      have hk : Kp (fun _ => False) w2 wr := HK.out.1
      have q0 := hk.cellv (hcs 0 _ rfl) id
      have q1 := hk.cellv (hcs 1 _ rfl) id
      have q2 := hk.cellv (hcs 2 _ rfl) id
      have q3 := hk.cellv (hcs 3 _ rfl) id
      have q4 := hk.cellv (hcs 4 _ rfl) id
      rw [← hgy] at q3 q4 a4 a5 a6
      dsimp only at q3 q4 a4 a5 a6
      rw [a1] at q0
      rw [a2] at q1
      rw [a3] at q2
      rw [a4] at q3
      rw [a5] at q4
      rw [Nat.add_zero] at q0
      subst hpp
      have HO : Hid ((y.k = (o.k : Int)) ∧ (y.n = (o.n : Int)) ∧ j < n ∧ n ≤ 1000) := ⟨a1, a2, hlt, HN.out.2⟩
      clear hcs ho a1 a2 a3 a4 a5 a6 a7 hgy hk hy hlt hz0 hjL
      have hw1 : wrap64 ((j : Int) + 1) = ((j + 1 : Nat) : Int) := by have := HO.out.2.2; unfold wrap64; omega
      by_cases hk1 : o.k = 4
      · have hk2 : (o.k : Int) = 4 := by omega
        rw [hk2] at q0
        have HS2 : Hid (ntsL (L.take (j + 1)) = ntsL (L.take j) ++ [(o.n : Int)]) := by
          show _ = _
          rw [HSn.out, HO.out.1, if_pos hk2, HO.out.2.1]
        clear HSn
        obtain ⟨wb, hwb⟩ : ∃ z, z = (wr.alloc (.cells #[.int .i64 4, .int .i64 (o.n : Int), .int .i64 (o.i : Int), .int .i64 (o.e : Int), .slice gp o.b.length gc] 122)).alloc (.cells #[.int .i64 (o.n : Int)] 3) := ⟨_, rfl⟩
        have kb : Kp (fun _ => False) wr wb := by rw [hwb]; exact ((Kp.refl _ _).alloc _).alloc _
        have HCb : Hid (wb.cell? ⟨wr.heap.size + 1, 0, none⟩ = some (.int .i64 (o.n : Int))) := by
          rw [hwb]
          have h1 := (show Lv _ _ [.int .i64 (o.n : Int)] from Lv.new (wr.alloc (.cells #[.int .i64 4, .int .i64 (o.n : Int), .int .i64 (o.i : Int), .int .i64 (o.e : Int), .slice gp o.b.length gc] 122)) #[.int .i64 (o.n : Int)] 3).cell (j := 0) rfl
          show _ = _
          first | (simp; done) | simpa using h1
        have HOb : Hid (Oi wb w2.heap.size v1 (ntsL (L.take j)) ∧ (ntsL (L.take j)).length ≤ 1000 ∧ w2.heap.size ≤ wb.heap.size) := ⟨ownsRow_keep HK.out.2 kb (fun _ _ e => e), by have h1 := ntsL_len (L.take j); rw [List.length_take] at h1; have := HO.out; omega, Nat.le_trans HK.out.1.size kb.size⟩
        have HKb : Hid (Kp (fun _ => False) wr wb) := kb
        clear kb
        go_wp2_with (at_builtin; refine wpList_append_in ((wr.alloc (.cells #[.int .i64 4, .int .i64 (o.n : Int), .int .i64 (o.i : Int), .int .i64 (o.e : Int), .slice gp o.b.length gc] 122)).alloc (.cells #[.int .i64 (o.n : Int)] 3)) rfl _ _ rfl w2.heap.size v1 (ntsL (L.take j)) (o.n : Int) (wr.heap.size + 1) rfl (by rw [← hwb]; exact HOb.out.1) (by first | rfl | simp) (by rw [← hwb]; exact HCb.out) HOb.out.2.1 (by rw [← hwb]; exact HOb.out.2.2) ?_; intro v9 w9 o9 k9; rw [← hwb] at k9)
        have HF9 : Hid (Kp (fun _ => False) w2 w9 ∧ Oi w9 w2.heap.size v9 (ntsL (L.take (j + 1)))) := ⟨(HK.out.1.trans HKb.out (fun _ _ e => e)).trans k9 (fun b hb e => by have := (ownBlock_lt HOb.out.1 e).1; omega), by rw [HS2.out]; exact o9⟩
        have HJ : Hid (j < n) := HO.out.2.2.1
        clear o9 k9 hwb HKb HOb HCb q0 q1 q2 q3 q4 HK HO HS2 hlt2
        go_wp2
        go_roundg (n - (j + 1))
        case rel => exact ⟨j + 1, v9, HJ.out, rfl, rfl, by first | rw [hw1] | simp, HF9.out⟩
        case measure => exact Nat.sub_lt_sub_left HJ.out (Nat.lt_succ_self j)
      · have hk2 : ¬ (o.k : Int) = 4 := by omega
        have hk3 : ((o.k : Int) == 4) = false := by simp [hk2]
        have HS2 : Hid (ntsL (L.take (j + 1)) = ntsL (L.take j)) := by
          show _ = _
          rw [HSn.out, HO.out.1, if_neg hk2]
          exact List.append_nil _
        clear HSn
        go_wp2_with fail
        obtain ⟨wb, hwb⟩ : ∃ z, z = wr.alloc (.cells #[.int .i64 (o.k : Int), .int .i64 (o.n : Int), .int .i64 (o.i : Int), .int .i64 (o.e : Int), .slice gp o.b.length gc] 122) := ⟨_, rfl⟩
        rw [← hwb]
        have kb : Kp (fun _ => False) wr wb := by rw [hwb]; exact (Kp.refl _ _).alloc _
        have HF9 : Hid (Kp (fun _ => False) w2 wb ∧ Oi wb w2.heap.size v1 (ntsL (L.take (j + 1)))) := ⟨HK.out.1.trans kb (fun _ _ e => e), by rw [HS2.out]; exact ownsRow_keep HK.out.2 kb (fun _ _ e => e)⟩
        have HJ : Hid (j < n) := HO.out.2.2.1
        clear kb hwb q0 q1 q2 q3 q4 HK HO HS2 hlt2
        go_roundg (n - (j + 1))
        case rel => exact ⟨j + 1, v1, HJ.out, rfl, rfl, by first | rw [hw1] | simp, HF9.out⟩
        case measure => exact Nat.sub_lt_sub_left HJ.out (Nat.lt_succ_self j)
    · have hjn : j = n := by omega
      subst hjn
      have hlt2 : ¬ ((j : Int) < (j : Int)) := by omega
      have HE : Hid (Ths h ss ∧ Kp (fun _ => False) w wr ∧ Oi wr w.heap.size v1 (ntsL (srt3 ss))) := by
        refine ⟨HF.out.1, HF.out.2.2.trans HK.out.1 (fun _ _ e => e), ?_⟩
        have h9 := ownsRow_base HK.out.2 HF.out.2.2.size
        rw [← HF.out.2.1, ← List.take_of_length_le (Nat.le_of_eq HN.out.1.symm)]
        exact h9
      clear HK HR HGo HF
      go_wp2
      go_ret
      exact ⟨v1, rfl, HE.out.2.1, ss, HE.out.2.2, HE.out.1⟩
end Go.Proofs.YtippipeebkkghaaGreatDoor
