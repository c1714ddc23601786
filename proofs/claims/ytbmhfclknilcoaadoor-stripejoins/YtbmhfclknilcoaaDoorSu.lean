/- The reference's Cut. -/
import Derived.Test.YtbmhfclknilcoaaDoorSr
import Derived.Test.YtbmhfclknilcoaaDoorFx
namespace Go.Proofs.YtbmhfclknilcoaaDoor
open Go.RowKit Go.Deep Bl

/-- the bytes of row k when c stripes are laid out of F -/
def rowD (K : Nat) (F : List Nat) (k c : Nat) : List Nat := (List.range (8 * c)).map fun p => F.getD (byteAt K k p) 0
theorem rowD_length (K : Nat) (F : List Nat) (k c : Nat) : (rowD K F k c).length = 8 * c := by simp [rowD]
theorem rowD_get (K : Nat) (F : List Nat) (k c : Nat) {p : Nat} (h : p < 8 * c) : (rowD K F k c)[p]? = some (F.getD (byteAt K k p) 0) := by
  unfold rowD; rw [List.getElem?_map, List.getElem?_range h]; rfl
theorem rowD_byte {K : Nat} {F : List Nat} (h : ∀ x ∈ F, x < 256) (k c : Nat) : ∀ x ∈ rowD K F k c, x < 256 := fun x hx => by
  obtain ⟨p, _, rfl⟩ := List.mem_map.1 hx
  by_cases hp : byteAt K k p < F.length
  · rw [List.getD_eq_getElem?_getD, List.getElem?_eq_getElem hp]; exact h _ (List.getElem_mem hp)
  · rw [List.getD_eq_getElem?_getD, List.getElem?_eq_none (by omega)]; exact (by decide : (0 : Nat) < 256)
theorem rowD_succ (K : Nat) (F : List Nat) (k c : Nat) (h : (c * K + k) * 8 + 8 ≤ F.length) : rowD K F k (c + 1) = rowD K F k c ++ (F.take ((c * K + k) * 8 + 8)).drop ((c * K + k) * 8) := by
  apply List.ext_getElem?
  intro p
  have hl : ((F.take ((c * K + k) * 8 + 8)).drop ((c * K + k) * 8)).length = 8 := by rw [List.length_drop, List.length_take]; omega
  by_cases h1 : p < 8 * c
  · rw [rowD_get K F k (c + 1) (by omega), List.getElem?_append_left (by rw [rowD_length]; exact h1), rowD_get K F k c h1]
  · by_cases h2 : p < 8 * c + 8
    · rw [rowD_get K F k (c + 1) (by omega), List.getElem?_append_right (by rw [rowD_length]; omega), rowD_length, List.getElem?_drop, List.getElem?_take_of_lt (by omega)]
      have e : byteAt K k p = (c * K + k) * 8 + (p - 8 * c) := by
        unfold byteAt
        rw [show p / 8 = c from by omega]; omega
      rw [e, List.getD_eq_getElem?_getD, List.getElem?_eq_getElem (by omega)]; rfl
    · rw [List.getElem?_eq_none (by rw [rowD_length]; omega), List.getElem?_eq_none (by rw [List.length_append, rowD_length, hl]; omega)]

/-- rows that are laid, stripe by stripe: c j stripes of row j -/
structure Dt (w0 wr : World) (t K : Nat) (F : List Nat) (V : Nat → Value) (c : Nat → Nat) (gf : Nat) : Prop where
  kept : Kp (fun _ => False) w0 wr
  top : wr.rowIs t 30 K V
  low : w0.heap.size ≤ t
  row : ∀ j, j < K → Ow wr w0.heap.size (V j) (rowD K F j (c j))
  inj : ∀ i j, i < K → j < K → i ≠ j → ∀ g, (V i).ownBlock = some g → (V j).ownBlock ≠ some g
  ne : ∀ j, j < K → (V j).ownBlock ≠ some t
  far : ∀ j, j < K → (V j).ownBlock ≠ some gf
theorem Dt.drew {w0 wr : World} {t K : Nat} {F : List Nat} {V : Nat → Value} {c : Nat → Nat} {gf : Nat} (h : Dt w0 wr t K F V c gf) : Dt w0 wr.drew t K F V c gf := ⟨h.kept.drew, h.top.of_block rfl, h.low, h.row, h.inj, h.ne, h.far⟩
theorem Dt.step {w0 wr w3 : World} {t K : Nat} {F : List Nat} {V : Nat → Value} {c : Nat → Nat} {gf k : Nat} {v' : Value} (h : Dt w0 wr t K F V c gf) (hk : k < K) (hgf : gf < wr.heap.size)
    (o : Ow w3 w0.heap.size v' (rowD K F k (c k + 1))) (k3 : Kp (fun b => (V k).ownBlock = some b) wr w3) (hat : v'.ownBlock = (V k).ownBlock ∨ v'.ownBlock = some wr.heap.size) :
    Dt w0 (w3.setCell ⟨t, k, none⟩ v') t K F (fun j => if j = k then v' else V j) (fun j => if j = k then c k + 1 else c j) gf := by
  have htlt := h.top.lt
  have hT : w3.rowIs t 30 K V := k3.row h.top (h.ne k hk)
  have hold : ∀ g, v'.ownBlock = some g → (V k).ownBlock = some g ∨ g = wr.heap.size := fun g hg => by
    rcases hat with e | e
    · exact Or.inl (e.symm.trans hg)
    · exact Or.inr (Option.some.inj (e.symm.trans hg)).symm
  have ks : Kp (fun b => b = t) w3 (w3.setCell ⟨t, k, none⟩ v') := (Kp.refl (fun b => b = t) w3).setCell (a := ⟨t, k, none⟩) (fun _ => rfl) v'
  have hvt : v'.ownBlock ≠ some t := fun e => by
    rcases hold t e with e' | e'
    · exact h.ne k hk e'
    · omega
  refine ⟨(Kp.app h.kept (h.row k hk) k3).setCell (fun hb => absurd hb (by have := h.low; show ¬ t < _; omega)) _, hT.set k v', h.low, fun j hj => ?_, fun i j hi hj hij g hg => ?_, fun j hj => ?_, fun j hj => ?_⟩
  · by_cases e : j = k
    · subst e
      simp only [if_true]
      exact Bl.ownsRow_keep o ks (fun g hg e => hvt (by rw [hg, e]))
    · simp only [e, if_false]
      refine Bl.ownsRow_keep (Bl.ownsRow_keep (h.row j hj) k3 (fun g hg e' => h.inj k j hk hj (Ne.symm e) g e' hg)) ks (fun g hg e' => h.ne j hj (by rw [hg, e']))
  · by_cases e1 : i = k
    · have e2 : j ≠ k := fun e => hij (e1.trans e.symm)
      simp only [e1, if_true] at hg
      simp only [e2, if_false]
      rcases hold g hg with e | e
      · exact h.inj k j hk hj (Ne.symm e2) g e
      · intro e'
        have := (ownBlock_lt (h.row j hj) e').2
        omega
    · simp only [e1, if_false] at hg
      by_cases e2 : j = k
      · simp only [e2, if_true]
        intro e'
        rcases hold g e' with e | e
        · exact h.inj k i hk hi (Ne.symm e1) g e hg
        · have := (ownBlock_lt (h.row i hi) hg).2
          omega
      · simp only [e2, if_false]
        exact h.inj i j hi hj hij g hg
  · by_cases e : j = k
    · simp only [e, if_true]; exact hvt
    · simp only [e, if_false]; exact h.ne j hj
  · by_cases e : j = k
    · simp only [e, if_true]
      intro e'
      rcases hold gf e' with e'' | e''
      · exact h.far k hk e''
      · omega
    · simp only [e, if_false]; exact h.far j hj
theorem Dt.congr {w0 wr : World} {t K : Nat} {F : List Nat} {V : Nat → Value} {c c' : Nat → Nat} {gf : Nat} (h : Dt w0 wr t K F V c gf) (e : ∀ j, j < K → c j = c' j) : Dt w0 wr t K F V c' gf :=
  ⟨h.kept, h.top, h.low, fun j hj => by rw [← e j hj]; exact h.row j hj, h.inj, h.ne, h.far⟩
/-- the rows, read -/
theorem Dt.sh {w0 wr : World} {t K : Nat} {F : List Nat} {V : Nat → Value} {n gf : Nat} (h : Dt w0 wr t K F V (fun _ => n) gf) (hF : ∀ x ∈ F, x < 256) (hn : 1 ≤ n) :
    ∃ S : Sh, S.g = some ⟨t, 0, none⟩ ∧ S.cap = K ∧ S.G = K ∧ (∀ r, r < K → S.L r = 8 * n) ∧ Rd wr S ∧ ∀ r, r < K → ∀ c, S.M r c = (rowD K F r n).getD c 0 := by
  obtain ⟨G, hG⟩ := choose_lt (α := Nat × Nat) (n := K) (p := fun j x => V j = .slice (some ⟨x.1, 0, none⟩) (8 * n) x.2 ∧ Rb wr (some ⟨x.1, 0, none⟩) (8 * n) (rowD K F j n)) (fun j hj => by
    have ho := h.row j hj
    obtain ⟨g, cap, hv, _, _⟩ := World.ownsRow.form ho (by rw [rowD_length]; omega)
    obtain ⟨p, c, hv2, _, hr, _⟩ := ho.rb (rowD_byte hF j n)
    rw [hv] at hv2
    injection hv2 with a1 a2 a3
    subst a1
    rw [rowD_length] at hv hr
    exact ⟨(g, cap), hv, hr⟩)
  refine ⟨⟨some ⟨t, 0, none⟩, K, K, t, 0, fun r => some ⟨(G r).1, 0, none⟩, fun _ => 8 * n, fun r => (G r).2, fun r => (G r).1, fun _ => 0, fun r c => (rowD K F r n).getD c 0⟩, rfl, rfl, rfl, fun _ _ => rfl, ⟨fun _ => rfl, fun r hr => ?_, fun _ _ _ _ => rfl, fun r hr c hc => ?_, fun r c => ?_⟩, fun _ _ _ => rfl⟩
  · have := h.top.cell (i := r) hr
    rw [(hG r hr).1] at this
    simpa using this
  · obtain ⟨b, o, e, hcell⟩ := (hG r hr).2.cell c hc
    simp only [Option.some.injEq, Addr.mk.injEq, and_true] at e
    obtain ⟨rfl, rfl⟩ := e
    exact hcell
  · show (rowD K F r n).getD c 0 < 256
    by_cases hc : c < (rowD K F r n).length
    · rw [List.getD_eq_getElem?_getD, List.getElem?_eq_getElem hc]; exact rowD_byte hF r n _ (List.getElem_mem hc)
    · rw [List.getD_eq_getElem?_getD, List.getElem?_eq_none (by omega)]; exact (by decide : (0 : Nat) < 256)
theorem stripes_enough {K S : Nat} (hK : 1 ≤ K) : S ≤ stripesOf K S * K * 8 := by
  have h1 := Nat.div_add_mod (S + K * 8 - 1) (K * 8)
  have h2 := Nat.mod_lt (S + K * 8 - 1) (show 0 < K * 8 by omega)
  have h3 : (S + K * 8 - 1) / (K * 8) * (K * 8) ≤ stripesOf K S * (K * 8) := Nat.mul_le_mul_right _ (by unfold stripesOf; omega)
  rw [Nat.mul_comm (K * 8)] at h1
  rw [Nat.mul_assoc]
  omega
theorem own_empty {w : World} {base g : Nat} (h : w.heap[g]? = some (.cells #[] 5 (0, 0))) (hb : base ≤ g) : Ow w base (.slice (some ⟨g, 0, none⟩) 0 0) [] :=
  ⟨rfl, Or.inr ⟨g, 0, #[], rfl, hb, h, Nat.le_refl _, by unfold maxLen; omega, rfl, rfl⟩⟩
theorem slice_lh (p : Option Addr) (n c l r : Nat) (hl : l ≤ r) (hr : r ≤ c) (w : World) :
    (Instr.slice 30 (.slice p n c) (some (.int .i64 (l : Int))) (some (.int .i64 (r : Int))) none).run Tryd.prog w = .ok (.slice (if c = l then p else p.map (·.add (l * 1))) (r - l) (c - l)) w := by
  obtain ⟨i, hi, hz⟩ := Option.map_eq_some_iff.1 info5
  simp only [Prod.mk.injEq] at hz
  obtain ⟨hz, hs, hb⟩ := hz
  have h1 : (0 : Int) ≤ l ∧ (l : Int) ≤ (r : Int) := by omega
  have h2 : (0 : Int) ≤ r ∧ (r : Int) ≤ (c : Int) := by omega
  simp [Instr.slice, Instr.sliceBounds, Instr.sliceBound, asIntOf, run_underlying Tryd.underlying30, sizeOf, typeInfo, hi, hs, hl, hr]
theorem ow_drew {w : World} {base : Nat} {v : Value} {xs : List Nat} (h : Ow w base v xs) : Ow w.drew base v xs := h
theorem heap_new_d (w : World) (o : Obj) : (w.alloc o).drew.heap[w.heap.size]? = some o := heap_alloc_new w o
theorem rb_of_bs {w : World} {v : Value} {la : Nat} {f : Nat → Nat} (h : Bc w v la f) : ∃ p c, v = .slice p la c ∧ la ≤ c ∧ Rb w p la ((List.range la).map f) := by
  obtain ⟨pa, ba, oa, ca, rfl, h1, h2, h3, h4⟩ := h
  refine ⟨pa, ca, rfl, h4, by simp, fun x hx => by obtain ⟨j, _, rfl⟩ := List.mem_map.1 hx; exact h3 j, fun j hj => ⟨ba, oa, h1 j hj, ?_⟩⟩
  rw [h2 j hj, List.getD_eq_getElem?_getD, List.getElem?_map, List.getElem?_range hj]; rfl

end Go.Proofs.YtbmhfclknilcoaaDoor
