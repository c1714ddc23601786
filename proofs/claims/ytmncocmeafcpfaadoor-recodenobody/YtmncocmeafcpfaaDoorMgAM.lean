/- Texts of this proof, joined: MfSu. -/
import Derived.Test.YtmncocmeafcpfaaDoorMgAL
/- The reference's Cut. -/
namespace Go.Proofs.YtmncocmeafcpfaaDoor.Mf
open Go.RowKit Go.Deep Bl

/-- the bytes of row k when c stripes are laid out of F -/
def rowD (K : Nat) (F : List Nat) (k c : Nat) : List Nat := (List.range (8 * c)).map fun p => F.getD (byteAt K k p) 0
theorem rowD_length (K : Nat) (F : List Nat) (k c : Nat) : (rowD K F k c).length = 8 * c := by simp [rowD]
theorem rowD_get (K : Nat) (F : List Nat) (k c : Nat) {p : Nat} (h : p < 8 * c) : (rowD K F k c)[p]? = some (F.getD (byteAt K k p) 0) := by
  unfold rowD; rw [List.getElem?_map, List.getElem?_range h]; rfl
theorem rowD_byte {K : Nat} {F : List Nat} (h : ∀ x ∈ F, x < 256) (k c : Nat) : ∀ x ∈ rowD K F k c, x < 256 := fun x hx => by
  obtain ⟨p, _, rfl⟩ := List.mem_map.1 hx
  by_cases hp : byteAt K k p < F.length
  · rw [List.getD_eq_getElem?_getD, List.getElem?_eq_getElem hp]; exact h _ (List.getElem_mem hp)
  · rw [List.getD_eq_getElem?_getD, List.getElem?_eq_none (by omega)]; exact (by decide : (0 : Nat) < 256)
theorem rowD_succ (K : Nat) (F : List Nat) (k c : Nat) (h : (c * K + k) * 8 + 8 ≤ F.length) : rowD K F k (c + 1) = rowD K F k c ++ (F.take ((c * K + k) * 8 + 8)).drop ((c * K + k) * 8) := by
  apply List.ext_getElem?
  intro p
  have hl : ((F.take ((c * K + k) * 8 + 8)).drop ((c * K + k) * 8)).length = 8 := by rw [List.length_drop, List.length_take]; omega
  by_cases h1 : p < 8 * c
  · rw [rowD_get K F k (c + 1) (by omega), List.getElem?_append_left (by rw [rowD_length]; exact h1), rowD_get K F k c h1]
  · by_cases h2 : p < 8 * c + 8
    · rw [rowD_get K F k (c + 1) (by omega), List.getElem?_append_right (by rw [rowD_length]; omega), rowD_length, List.getElem?_drop, List.getElem?_take_of_lt (by omega)]
      have e : byteAt K k p = (c * K + k) * 8 + (p - 8 * c) := by
        unfold byteAt
        rw [show p / 8 = c from by omega]; omega
      rw [e, List.getD_eq_getElem?_getD, List.getElem?_eq_getElem (by omega)]; rfl
    · rw [List.getElem?_eq_none (by rw [rowD_length]; omega), List.getElem?_eq_none (by rw [List.length_append, rowD_length, hl]; omega)]

/-- rows that are laid, stripe by stripe: c j stripes of row j -/
structure Dt (w0 wr : World) (t K : Nat) (F : List Nat) (V : Nat → Value) (c : Nat → Nat) (gf : Nat) : Prop where
  kept : Kp (fun _ => False) w0 wr
  top : wr.rowIs t 22 K V
  low : w0.heap.size ≤ t
  row : ∀ j, j < K → Ow wr w0.heap.size (V j) (rowD K F j (c j))
  inj : ∀ i j, i < K → j < K → i ≠ j → ∀ g, (V i).ownBlock = some g → (V j).ownBlock ≠ some g
  ne : ∀ j, j < K → (V j).ownBlock ≠ some t
  far : ∀ j, j < K → (V j).ownBlock ≠ some gf
theorem Dt.drew {w0 wr : World} {t K : Nat} {F : List Nat} {V : Nat → Value} {c : Nat → Nat} {gf : Nat} (h : Dt w0 wr t K F V c gf) : Dt w0 wr.drew t K F V c gf := ⟨h.kept.drew, h.top.of_block rfl, h.low, h.row, h.inj, h.ne, h.far⟩
theorem Dt.step {w0 wr w3 : World} {t K : Nat} {F : List Nat} {V : Nat → Value} {c : Nat → Nat} {gf k : Nat} {v' : Value} (h : Dt w0 wr t K F V c gf) (hk : k < K) (hgf : gf < wr.heap.size)
    (o : Ow w3 w0.heap.size v' (rowD K F k (c k + 1))) (k3 : Kp (fun b => (V k).ownBlock = some b) wr w3) (hat : v'.ownBlock = (V k).ownBlock ∨ v'.ownBlock = some wr.heap.size) :
    Dt w0 (w3.setCell ⟨t, k, none⟩ v') t K F (fun j => if j = k then v' else V j) (fun j => if j = k then c k + 1 else c j) gf := by
  have htlt := h.top.lt
  have hT : w3.rowIs t 22 K V := k3.row h.top (h.ne k hk)
  have hold : ∀ g, v'.ownBlock = some g → (V k).ownBlock = some g ∨ g = wr.heap.size := fun g hg => by
    rcases hat with e | e
    · exact Or.inl (e.symm.trans hg)
    · exact Or.inr (Option.some.inj (e.symm.trans hg)).symm
  have ks : Kp (fun b => b = t) w3 (w3.setCell ⟨t, k, none⟩ v') := (Kp.refl (fun b => b = t) w3).setCell (a := ⟨t, k, none⟩) (fun _ => rfl) v'
  have hvt : v'.ownBlock ≠ some t := fun e => by
    rcases hold t e with e' | e'
    · exact h.ne k hk e'
    · omega
  refine ⟨(Kp.app h.kept (h.row k hk) k3).setCell (fun hb => absurd hb (by have := h.low; show ¬ t < _; omega)) _, hT.set k v', h.low, fun j hj => ?_, fun i j hi hj hij g hg => ?_, fun j hj => ?_, fun j hj => ?_⟩
  · by_cases e : j = k
    · subst e
      simp only [if_true]
      exact Bl.ownsRow_keep o ks (fun g hg e => hvt (by rw [hg, e]))
    · simp only [e, if_false]
      refine Bl.ownsRow_keep (Bl.ownsRow_keep (h.row j hj) k3 (fun g hg e' => h.inj k j hk hj (Ne.symm e) g e' hg)) ks (fun g hg e' => h.ne j hj (by rw [hg, e']))
  · by_cases e1 : i = k
    · have e2 : j ≠ k := fun e => hij (e1.trans e.symm)
      simp only [e1, if_true] at hg
      simp only [e2, if_false]
      rcases hold g hg with e | e
      · exact h.inj k j hk hj (Ne.symm e2) g e
      · intro e'
        have := (ownBlock_lt (h.row j hj) e').2
        omega
    · simp only [e1, if_false] at hg
      by_cases e2 : j = k
      · simp only [e2, if_true]
        intro e'
        rcases hold g e' with e | e
        · exact h.inj k i hk hi (Ne.symm e1) g e hg
        · have := (ownBlock_lt (h.row i hi) hg).2
          omega
      · simp only [e2, if_false]
        exact h.inj i j hi hj hij g hg
  · by_cases e : j = k
    · simp only [e, if_true]; exact hvt
    · simp only [e, if_false]; exact h.ne j hj
  · by_cases e : j = k
    · simp only [e, if_true]
      intro e'
      rcases hold gf e' with e'' | e''
      · exact h.far k hk e''
      · omega
    · simp only [e, if_false]; exact h.far j hj
theorem Dt.congr {w0 wr : World} {t K : Nat} {F : List Nat} {V : Nat → Value} {c c' : Nat → Nat} {gf : Nat} (h : Dt w0 wr t K F V c gf) (e : ∀ j, j < K → c j = c' j) : Dt w0 wr t K F V c' gf :=
  ⟨h.kept, h.top, h.low, fun j hj => by rw [← e j hj]; exact h.row j hj, h.inj, h.ne, h.far⟩
/-- the rows, read -/
theorem Dt.sh {w0 wr : World} {t K : Nat} {F : List Nat} {V : Nat → Value} {n gf : Nat} (h : Dt w0 wr t K F V (fun _ => n) gf) (hF : ∀ x ∈ F, x < 256) (hn : 1 ≤ n) :
    ∃ S : Sh, S.g = some ⟨t, 0, none⟩ ∧ S.cap = K ∧ S.G = K ∧ (∀ r, r < K → S.L r = 8 * n) ∧ Rd wr S ∧ ∀ r, r < K → ∀ c, S.M r c = (rowD K F r n).getD c 0 := by
  obtain ⟨G, hG⟩ := choose_lt (α := Nat × Nat) (n := K) (p := fun j x => V j = .slice (some ⟨x.1, 0, none⟩) (8 * n) x.2 ∧ Rb wr (some ⟨x.1, 0, none⟩) (8 * n) (rowD K F j n)) (fun j hj => by
    have ho := h.row j hj
    obtain ⟨g, cap, hv, _, _⟩ := World.ownsRow.form ho (by rw [rowD_length]; omega)
    obtain ⟨p, c, hv2, _, hr, _⟩ := ho.rb (rowD_byte hF j n)
    rw [hv] at hv2
    injection hv2 with a1 a2 a3
    subst a1
    rw [rowD_length] at hv hr
    exact ⟨(g, cap), hv, hr⟩)
  refine ⟨⟨some ⟨t, 0, none⟩, K, K, t, 0, fun r => some ⟨(G r).1, 0, none⟩, fun _ => 8 * n, fun r => (G r).2, fun r => (G r).1, fun _ => 0, fun r c => (rowD K F r n).getD c 0⟩, rfl, rfl, rfl, fun _ _ => rfl, ⟨fun _ => rfl, fun r hr => ?_, fun _ _ _ _ => rfl, fun r hr c hc => ?_, fun r c => ?_⟩, fun _ _ _ => rfl⟩
  · have := h.top.cell (i := r) hr
    rw [(hG r hr).1] at this
    simpa using this
  · obtain ⟨b, o, e, hcell⟩ := (hG r hr).2.cell c hc
    simp only [Option.some.injEq, Addr.mk.injEq, and_true] at e
    obtain ⟨rfl, rfl⟩ := e
    exact hcell
  · show (rowD K F r n).getD c 0 < 256
    by_cases hc : c < (rowD K F r n).length
    · rw [List.getD_eq_getElem?_getD, List.getElem?_eq_getElem hc]; exact rowD_byte hF r n _ (List.getElem_mem hc)
    · rw [List.getD_eq_getElem?_getD, List.getElem?_eq_none (by omega)]; exact (by decide : (0 : Nat) < 256)
theorem stripes_enough {K S : Nat} (hK : 1 ≤ K) : S ≤ stripesOf K S * K * 8 := by
  have h1 := Nat.div_add_mod (S + K * 8 - 1) (K * 8)
  have h2 := Nat.mod_lt (S + K * 8 - 1) (show 0 < K * 8 by omega)
  have h3 : (S + K * 8 - 1) / (K * 8) * (K * 8) ≤ stripesOf K S * (K * 8) := Nat.mul_le_mul_right _ (by unfold stripesOf; omega)
  rw [Nat.mul_comm (K * 8)] at h1
  rw [Nat.mul_assoc]
  omega
theorem own_empty {w : World} {base g : Nat} (h : w.heap[g]? = some (.cells #[] 5 (0, 0))) (hb : base ≤ g) : Ow w base (.slice (some ⟨g, 0, none⟩) 0 0) [] :=
  ⟨rfl, Or.inr ⟨g, 0, #[], rfl, hb, h, Nat.le_refl _, by unfold maxLen; omega, rfl, rfl⟩⟩
theorem slice_lh (p : Option Addr) (n c l r : Nat) (hl : l ≤ r) (hr : r ≤ c) (w : World) :
    (Instr.slice 22 (.slice p n c) (some (.int .i64 (l : Int))) (some (.int .i64 (r : Int))) none).run Tryd.prog w = .ok (.slice (if c = l then p else p.map (·.add (l * 1))) (r - l) (c - l)) w := by
  obtain ⟨i, hi, hz⟩ := Option.map_eq_some_iff.1 info5
  simp only [Prod.mk.injEq] at hz
  obtain ⟨hz, hs, hb⟩ := hz
  have h1 : (0 : Int) ≤ l ∧ (l : Int) ≤ (r : Int) := by omega
  have h2 : (0 : Int) ≤ r ∧ (r : Int) ≤ (c : Int) := by omega
  simp [Instr.slice, Instr.sliceBounds, Instr.sliceBound, asIntOf, run_underlying Tryd.underlying22, sizeOf, typeInfo, hi, hs, hl, hr]
theorem ow_drew {w : World} {base : Nat} {v : Value} {xs : List Nat} (h : Ow w base v xs) : Ow w.drew base v xs := h
theorem heap_new_d (w : World) (o : Obj) : (w.alloc o).drew.heap[w.heap.size]? = some o := heap_alloc_new w o
theorem rb_of_bs {w : World} {v : Value} {la : Nat} {f : Nat → Nat} (h : Bc w v la f) : ∃ p c, v = .slice p la c ∧ la ≤ c ∧ Rb w p la ((List.range la).map f) := by
  obtain ⟨pa, ba, oa, ca, rfl, h1, h2, h3, h4⟩ := h
  refine ⟨pa, ca, rfl, h4, by simp, fun x hx => by obtain ⟨j, _, rfl⟩ := List.mem_map.1 hx; exact h3 j, fun j hj => ⟨ba, oa, h1 j hj, ?_⟩⟩
  rw [h2 j hj, List.getD_eq_getElem?_getD, List.getElem?_map, List.getElem?_range hj]; rfl

set_option maxRecDepth 100000 in
set_option maxHeartbeats 3200000 in
theorem refCut_yes (K M la : Nat) (p : Option Addr) (ca : Nat) (xs : List Nat) (w : World) (h : Rb w p la xs) (h1 : 1 ≤ (K : Int)) (h3 : (M : Int) ≤ 255 - (K : Int)) (hl : (la : Int) ≤ 400) :
    Calls Tryd.prog 13 #[.agg #[.int .i64 K, .int .i64 M], .slice p la ca] w fun e w' =>
      ∃ v D, e = .returned (.tuple #[v, .int .i64 0]) ∧ Kp (fun _ => False) w w' ∧ Mx w' v (K + M) (lenOf K la) (enc K D) ∧ ∀ q, q < K → ∀ j, j < lenOf K la → D q j = cutAt K (fun i => xs.getD i 0) la q j := by
  obtain ⟨wa, hwa, ka, za, q1, q2⟩ := code_alloc w K M
  have HC : Hid (Calls _ _ _ wa _) := refLength_yes K M la wa h1 h3 hl
  have HS : Hid (∀ w, Calls _ _ _ w _) := fun w => refStripes_yes K M la w h1 h3 hl
  have hsb : (stripesOf K la : Int) ≤ 50 := by have := quot_le (K := K) (size := la) (by omega) (by omega); unfold stripesOf; omega
  have hs1 : (1 : Int) ≤ (stripesOf K la : Int) := by unfold stripesOf; omega
  have HL : Hid (lenOf K la = stripesOf K la * 8) := rfl
  have HE : Hid (la ≤ stripesOf K la * K * 8) := by
    show _ ≤ _
    exact stripes_enough (by omega)
  generalize stripesOf K la = Q at *
  have hz : ((lenOf K la : Int) == 0) = false := by rw [beq_eq_false_iff_ne, HL.out]; omega
  generalize lenOf K la = LL at *
  go_enter Tryd.func13, Tryd.ntmps13
  go_wp2_with fail
  rw [← hwa]
  refine HC.out.mono ?_
  rintro e w1 ⟨rfl, k1⟩
  have r1 := k1.cellv q1 id
  have r2 := k1.cellv q2 id
  have kk := ka.trans k1 (fun _ _ e => e)
  clear hwa q1 q2
  go_wp2_with fail
  refine (HS.out _).mono ?_
  rintro e w2 ⟨rfl, k2⟩
  have c1 := k2.cellv r1 id
  have c2 := k2.cellv r2 id
  have kw := kk.trans k2 (fun _ _ e => e)
  clear r1 r2 HC HS
  obtain ⟨R, hR⟩ : ∃ R : Nat, R = Q * K := ⟨_, rfl⟩
  have hRb : (R : Int) ≤ 12750 := by
    have : R ≤ 50 * 255 := by rw [hR]; exact Nat.mul_le_mul (by omega) (by omega)
    omega
  have hQK : (Q : Int) * (K : Int) = (R : Int) := by rw [hR, Int.natCast_mul]
  have HRE : Hid (la ≤ R * 8) := by rw [hR]; exact HE.out
  have HR : Hid (R = Q * K) := hR
  obtain ⟨m, hm⟩ : ∃ m : Nat, (m : Int) = (R : Int) * 8 - (la : Int) := ⟨R * 8 - la, by have := HRE.out; omega⟩
  have x1 : IntKind.i64.wrap (R : Int) = (R : Int) := by rw [IntKind.wrap_i64]; omega
  have x2 : IntKind.i64.wrap ((R : Int) * 8) = (R : Int) * 8 := by rw [IntKind.wrap_i64]; omega
  have x3 : IntKind.i64.wrap ((R : Int) * 8 - (la : Int)) = (m : Int) := by rw [IntKind.wrap_i64]; omega
  have HM : Hid ((m : Int) = (R : Int) * 8 - (la : Int)) := hm
  have hbl := h.keep0 kw
  have HXL : Hid (xs.length = la) := h.len
  have c1a : ∀ o, (w2.alloc o).cell? ⟨w.heap.size, 0, none⟩ = some (.int .i64 (K : Int)) := fun o => ((Kp.refl (fun _ => False) w2).alloc o).cellv c1 id
  clear hm hR HE
  go_wp2
  go_region_law
    (first
      | (have ho4 := ho3
         refine Bl.step_append_zeros w2 _ k3 (by rfl) _ _ (by rfl) v3 _ (by rfl) ho3 m (by rfl) ?_ ?_
         · have := HM.out; have := HXL.out; simp; omega
         intro v4 w4 ho4' k4
         have c14 := k4.cellv c1 id)
      | (refine Bl.step_append_bytes0 w2 _ ?_ (by rfl) _ _ (by rfl) _ 0 [] (by rfl) ?_ p la ca xs (by rfl) ?_ (by simp; omega) ?_
         · exact ((Kp.refl _ _).alloc _).drew
         · exact own_empty (heap_new_d _ _) (Nat.le_refl _)
         · exact hbl.keep0 ((Kp.refl _ _).alloc _).drew
         intro v3 w3 ho3 k3 hk3 hat3
         have c13 := k3.cellv c1 id))
  all_goals
    rw [List.nil_append] at ho4'
    obtain ⟨F, hF⟩ : ∃ F, F = xs ++ List.replicate m 0 := ⟨_, rfl⟩
    have HFl : Hid (F.length = R * 8) := by show _ = _; rw [hF, List.length_append, List.length_replicate]; have := HM.out; have := HXL.out; have := HRE.out; omega
    have HFb : Hid (∀ x ∈ F, x < 256) := fun x hx => by
      rw [hF] at hx
      rcases List.mem_append.1 hx with hx | hx
      · exact h.byte x hx
      · rw [List.eq_of_mem_replicate hx]; omega
    have HFg : Hid (∀ i, F.getD i 0 = if i < la then xs.getD i 0 else 0) := fun i => by
      rw [hF, List.getD_eq_getElem?_getD, List.getD_eq_getElem?_getD]
      by_cases hi : i < la
      · rw [if_pos hi, List.getElem?_append_left (by rw [HXL.out]; exact hi)]
      · rw [if_neg hi, List.getElem?_append_right (by rw [HXL.out]; omega), List.getElem?_replicate]
        split <;> rfl
    rw [← hF] at ho4'
    have hQ1 : 1 ≤ R := by have := HR.out; have : 1 * 1 ≤ Q * K := Nat.mul_le_mul (by omega) (by omega); omega
    obtain ⟨gf, cf, rfl, hgf, hgflt⟩ := World.ownsRow.form ho4' (by rw [HFl.out]; omega)
    obtain ⟨pf, cf', ef, hcf, rf, _⟩ := ho4'.rb HFb.out
    injection ef with ef1 ef2 ef3
    subst ef1 ef3
    clear ef2
    rw [HFl.out] at rf hcf ⊢
    have hmk := run_make_row' (P := Tryd.prog) 27 22 (.slice none 0 0) 24 Tryd.underlying27 info42 rfl .i64 .i64 K (by omega) (by omega)
    have c4a : ∀ o, (w4.alloc o).cell? ⟨w.heap.size, 0, none⟩ = some (.int .i64 (K : Int)) := fun o => ((Kp.refl (fun _ => False) w4).alloc o).cellv c14 id
    have HD0 : Hid (Dt w4 (w4.alloc (.cells (madeCells #[.slice none 0 0] K) 22)) w4.heap.size K F (fun _ => .slice none 0 0) (fun _ => 0) gf) :=
      ⟨(Kp.refl _ _).alloc _, (World.rowIs_made w4 _ K 22), Nat.le_refl _, fun j _ => World.ownsRow_nil _ _ _ _, fun i j _ _ _ g hg => by simp [Value.ownBlock] at hg, fun j _ => by simp [Value.ownBlock], fun j _ => by simp [Value.ownBlock]⟩
    have HRF : Hid (Rb w4 (some ⟨gf, 0, none⟩) (R * 8) F) := rf
    clear rf ho4' hF x1 x2 x3 hbl c1a c13 ho3 hk3 hat3 k3 ho4
    go_simp
    go_wp2
    clear hmk
    go_loopg [37] Q (fun gk x wr => ∃ (s : Nat) (V : Nat → Value), s ≤ Q ∧ gk = Q - s ∧ x = .int .i64 s ∧ Dt w4 wr w4.heap.size K F V (fun _ => s) gf)
    case atStart => exact ⟨0, _, Nat.zero_le _, rfl, rfl, HD0.out⟩
    case round =>
      obtain ⟨s, V, hs, rfl, rfl, hD⟩ := hrel
      obtain ⟨wr0, rfl⟩ : ∃ x, x = wr := ⟨_, rfl⟩
      by_cases hlt : (s : Int) < (Q : Int)
      · have cK := hD.kept.cellv c14 id
        go_wp2
        go_loopg [42] K (fun gk x wr => ∃ (k : Nat) (V : Nat → Value), k ≤ K ∧ gk = K - k ∧ x = .int .i64 k ∧ Dt w4 wr w4.heap.size K F V (fun j => if j < k then s + 1 else s) gf)
        case atStart => exact ⟨0, V, Nat.zero_le _, rfl, rfl, by simpa using hD⟩
        case round =>
          clear hD cK
          obtain ⟨k, V, hk, rfl, rfl, hD⟩ := hrel
          have cK := hD.kept.cellv c14 id
          by_cases hlk : (k : Int) < (K : Int)
          · obtain ⟨P, hP⟩ : ∃ P : Nat, P = s * K := ⟨_, rfl⟩
            have hPb : (P : Int) ≤ 12750 := by
              have : P ≤ 50 * 255 := by rw [hP]; exact Nat.mul_le_mul (by omega) (by omega)
              omega
            have hsK : (s : Int) * (K : Int) = (P : Int) := by rw [hP, Int.natCast_mul]
            obtain ⟨A, hA⟩ : ∃ A : Nat, A = (P + k) * 8 := ⟨_, rfl⟩
            have hA' : ((P : Int) + (k : Int)) * 8 = (A : Int) := by omega
            have hAR : A + 8 ≤ R * 8 := by
              have h1 : (s + 1) * K ≤ Q * K := Nat.mul_le_mul_right _ (by omega)
              have h2 : (s + 1) * K = P + K := by rw [Nat.add_mul, Nat.one_mul, hP]
              have := HR.out
              omega
            have s1 := slice_lh (some ⟨gf, 0, none⟩) (R * 8) cf A (A + 8) (by omega) (by omega)
            have rr := (HRF.out.keep0 hD.kept).part hcf (l := A) (r := A + 8) (by omega) (by omega)
            obtain ⟨pp, hpp⟩ : ∃ pp, pp = if cf = A then some (⟨gf, 0, none⟩ : Addr) else (some (⟨gf, 0, none⟩ : Addr)).map (·.add (A * 1)) := ⟨_, rfl⟩
            rw [← hpp] at s1 rr
            have e8 : A + 8 - A = 8 := by omega
            rw [e8] at s1 rr
            rw [show ((A + 8 : Nat) : Int) = (A : Int) + 8 from by omega] at s1
            obtain ⟨cc, hcc⟩ : ∃ cc, cc = cf - A := ⟨_, rfl⟩
            rw [← hcc] at s1
            have x8 : IntKind.i64.wrap ((A : Int) + 8) = (A : Int) + 8 := by rw [IntKind.wrap_i64]; omega
            have HRr : Hid (Rb wr pp 8 ((F.take (A + 8)).drop A)) := rr
            have hck : (if k < k then s + 1 else s) = s := if_neg (Nat.lt_irrefl _)
            have HOk : Hid (Ow wr w4.heap.size (V k) (rowD K F k s)) := by have := hD.row k (by omega); simp only [hck] at this; exact this
            have cT := hD.top.cell (i := k) (by omega)
            have HT : Hid (∀ w3, Kp (fun b => (V k).ownBlock = some b) wr.drew w3 → w3.cell? ⟨w4.heap.size, k, none⟩ = some (V k) ∧ w3.frozen? ⟨w4.heap.size, k, none⟩ = false) := fun w3 k3 => by
              have := k3.row (hD.drew.top) (hD.ne k (by omega))
              exact ⟨this.cell (by omega), this.frozen k⟩
            have hlow := hD.kept.size
            have HStep : Hid (∀ v3 w3, Ow w3 w4.heap.size v3 (rowD K F k s ++ (F.take (A + 8)).drop A) → Kp (fun b => (V k).ownBlock = some b) wr.drew w3 → (v3.ownBlock = (V k).ownBlock ∨ v3.ownBlock = some wr.drew.heap.size) →
                Dt w4 (w3.setCell ⟨w4.heap.size, k, none⟩ v3) w4.heap.size K F (fun j => if j = k then v3 else V j) (fun j => if j < k + 1 then s + 1 else s) gf) := fun v3 w3 o3 hk3 hat3 => by
              have hrow : rowD K F k s ++ (F.take (A + 8)).drop A = rowD K F k (s + 1) := by
                rw [hA, hP]
                exact (rowD_succ K F k s (by rw [HFl.out, ← hP, ← hA]; exact hAR)).symm
              rw [hrow] at o3
              have := hD.drew.step (k := k) (by omega) (by show gf < wr.heap.size; omega) (by simp only [hck]; exact o3) hk3 hat3
              have efun : (fun j => if j = k then (if k < k then s + 1 else s) + 1 else if j < k then s + 1 else s) = fun j => if j < k + 1 then s + 1 else s := by
                funext j
                by_cases e : j = k
                · rw [if_pos e, if_neg (Nat.lt_irrefl _), if_pos (by omega)]
                · rw [if_neg e]
                  by_cases e2 : j < k
                  · rw [if_pos e2, if_pos (by omega)]
                  · rw [if_neg e2, if_neg (by omega)]
              rw [efun] at this
              exact this
            obtain ⟨N3, hN3⟩ : ∃ n, n = (rowD K F k s ++ (F.take (A + 8)).drop A).length := ⟨_, rfl⟩
            have HN3 : Hid (N3 = (rowD K F k s ++ (F.take (A + 8)).drop A).length) := hN3
            have HPos : Hid (0 < (rowD K F k s ++ (F.take (A + 8)).drop A).length) := by
              show 0 < _
              rw [List.length_append, List.length_drop, List.length_take, HFl.out]; omega
            clear hP hA hpp hcc e8 rr hck hD hN3
            go_wp2
            go_region_law
              (refine Bl.step_append_bytes _ (by rfl) _ _ (by rfl) w4.heap.size (V k) (rowD K F k s) (by rfl) (ow_drew HOk.out) pp 8 cc ((F.take (A + 8)).drop A) (by rfl) (HRr.out.keep0 (Kp.refl _ _).drew) (by rw [rowD_length]; omega) hlow ?_
               intro v3 w3 o3 hk3 hat3
               obtain ⟨g3, cap3, rfl, hg3, hlt3⟩ := World.ownsRow.form o3 HPos.out
               rw [← HN3.out]
               have t12 := HT.out w3 hk3
               have t1 := t12.1
               have t2 := t12.2
               clear t12)
            all_goals
              have HD' := HStep.out _ w3 o3 hk3 hat3
              rw [← HN3.out] at HD'
              clear o3 hk3 hat3 t1 t2 HStep HT HOk HRr s1
              go_simp
              go_wp2
              go_roundg (K - (k + 1))
              case rel => exact ⟨k + 1, _, by omega, rfl, by go_num, HD'⟩
              case measure => omega
          · have e : K = k := by omega
            subst e
            have HDn : Hid (Dt w4 wr w4.heap.size K F V (fun _ => s + 1) gf) := hD.congr (fun j hj => by rw [if_pos hj])
            clear hD
            go_wp2
            go_roundg (Q - (s + 1))
            case rel => exact ⟨s + 1, V, by omega, rfl, by go_num, HDn.out⟩
            case measure => omega
      · have e : Q = s := by omega
        subst e
        have HRows : Hid (∃ S : Sh, S.g = some ⟨w4.heap.size, 0, none⟩ ∧ S.cap = K ∧ S.G = K ∧ (∀ r, r < K → S.L r = 8 * Q) ∧ Rd wr0 S ∧ ∀ r, r < K → ∀ c, S.M r c = (rowD K F r Q).getD c 0) := hD.sh HFb.out (by omega)
        obtain ⟨S, e1, e2, e3, e4, hRd, e6⟩ := HRows.out
        have HEn : Hid (Calls _ _ _ wr0 _) := refEncode_yes K M (8 * Q) S wr0 hRd e3 e4 h1 h3 (by omega) (by omega)
        rw [e1, e2] at HEn
        have cK := hD.kept.cellv c14 id
        have cM := hD.kept.cellv (k4.cellv c2 id) id
        have kall := (kw.trans k4 (fun _ _ e => e)).trans hD.kept (fun _ _ e => e)
        have HLL : Hid (LL = 8 * Q) := by show _ = _; rw [HL.out]; omega
        have HMM : Hid (∀ q, q < K → ∀ j, j < LL → S.M q j = cutAt K (fun i => xs.getD i 0) la q j) := fun q hq j hj => by
          rw [e6 q hq j]
          have hj' : j < 8 * Q := by have := HLL.out; omega
          rw [List.getD_eq_getElem?_getD, rowD_get K F q Q hj', Option.getD_some, HFg.out]
          rfl
        clear hD e1 e2 e3 e4 hRd e6 HRows
        go_wp2_with fail
        refine HEn.out.mono ?_
        rintro e w6 ⟨v6, rfl, k6, hM6⟩
        go_wp2
        go_ret2
        exact ⟨v6, S.M, rfl, kall.trans k6 (fun _ _ e => e), by rw [HLL.out]; exact hM6, HMM.out⟩
end Go.Proofs.YtmncocmeafcpfaaDoor.Mf
