/- A fetch of two shards: Forget, Asks of none that came. -/
import Derived.Test.YtmncocmeafcpfaaDoorRa1
namespace Go.Proofs.YtmncocmeafcpfaaDoor
set_option linter.unusedVariables false
set_option linter.unusedSimpArgs false
open Go.RowKit Go.Deep

section
variable {w : World} {f g q oq cq n : Nat} {sm cnt : Int} {v0 : Value}
set_option maxRecDepth 100000 in
set_option maxHeartbeats 800000 in
theorem forget2 (h : Fe2 w f g q oq cq n sm cnt v0) : Calls Tryd.prog 116 #[.pointer (some ⟨f, 0, none⟩)] w fun e w' => e = .returned (.tuple #[]) ∧ Kp (fun b => b = f ∨ b = g) w w' ∧ Fe2 w' f g q oq cq n sm 0 (.slice none 0 0) := by
  have c6 := h.lf.cell (j := 6) rfl
  have hcl := fun ty => clear2 w g v0 _ h.lg ty
  have l1 : Lv (w.setCell ⟨g, 0, none⟩ (.slice none 0 0)) g [.slice none 0 0, .slice none 0 0] := h.lg.set1 0 _ (by simp)
  have l2 : Lv ((w.setCell ⟨g, 0, none⟩ (.slice none 0 0)).setCell ⟨g, 1, none⟩ (.slice none 0 0)) g [.slice none 0 0, .slice none 0 0] := l1.set1 1 _ (by simp)
  have k2 : Kp (fun b => b = g) w ((w.setCell ⟨g, 0, none⟩ (.slice none 0 0)).setCell ⟨g, 1, none⟩ (.slice none 0 0)) := ((Kp.refl (fun b => b = g) w).setCell (fun _ => rfl) _).setCell (fun _ => rfl) _
  obtain ⟨z, hz⟩ : ∃ z, z = ((w.setCell ⟨g, 0, none⟩ (.slice none 0 0)).setCell ⟨g, 1, none⟩ (.slice none 0 0)) := ⟨_, rfl⟩
  rw [← hz] at hcl l2 k2
  have lf := h.lf.keep k2 h.ne.1
  have c7 := lf.cell (j := 7) rfl
  have f7 := lf.fz (j := 7) (by simp)
  have HH : Hid (Kp (fun b => b = f ∨ b = g) w (z.setCell ⟨f, 7, none⟩ (.int .i64 0)) ∧ Fe2 (z.setCell ⟨f, 7, none⟩ (.int .i64 0)) f g q oq cq n sm 0 (.slice none 0 0)) := by
    have ks : Kp (fun b => b = f) z (z.setCell ⟨f, 7, none⟩ (.int .i64 0)) := (Kp.refl (fun b => b = f) z).setCell (fun _ => rfl) _
    exact ⟨(k2.mono (fun _ _ e => Or.inr e)).trans ks (fun b _ e => Or.inl e), lf.set1 7 _ (by simp), l2.keep ks (fun e => h.ne.1 e.symm), ks.cellv (k2.cellv h.q0 h.ne.2.2) h.ne.2.1, ks.cellv (k2.cellv h.q1 h.ne.2.2) h.ne.2.1, h.ne⟩
  clear h hz l1 l2 k2 lf
  go_enter Tryd.func116, Tryd.ntmps116
  go_wp2
  go_end0
  exact ⟨rfl, HH.out⟩

theorem infoM0 : (Tryd.prog.info? 45).map (fun i => (i.zero.map (·.cells.size), i.size, i.bytes)) = some (some 24, 24, 248) := by kernel_rfl
theorem infoM : ∃ i z, Tryd.prog.info? 45 = some i ∧ i.zero = some z ∧ i.size = 24 ∧ i.bytes = 248 ∧ z.cells.size = 24 := by
  obtain ⟨i, hi, he⟩ := Option.map_eq_some_iff.1 infoM0
  simp only [Prod.mk.injEq] at he
  obtain ⟨h1, h2, h3⟩ := he
  obtain ⟨z, hz, h4⟩ := Option.map_eq_some_iff.1 h1
  exact ⟨i, z, hi, hz, h2, h3, h4⟩
theorem uMs : Tryd.prog.underlying 54 = some (.slice 45) := Tryd.underlying54
theorem wpList_app_msg {ops : Array Oper} {rest : List Oper} {o : Oper} {a : Act} {Q : Exit → Act → World → Prop} {W : World} (mv : Array Value) (hm : mv.toList.length = 24) (h1c : ∀ u ∈ mv.toList, u.oneCell' = true) (hgd : o.guard = none) (s y : Operand)
    (ho : o.op = .call { callee := .builtin .append, args := #[s, y], argTypes := #[54, 54] })
    (base k : Nat) (v : Value) (xs : List Value) (hs : a.eval s = v) (gg : Nat) (hx0 : a.eval y = .slice (some ⟨gg, 0, none⟩) 1 1) (hgg : gg = W.heap.size) (hown : W.ownsRow base 45 24 v k xs) (hl : k ≤ 1000) (hb : base ≤ W.heap.size)
    (h : ∀ v' w', w'.ownsRow base 45 24 v' (k + 1) (xs ++ mv.toList) → Kp (fun b => v.ownBlock = some b) W w' → wpList Tryd.prog ops Q rest (a.put o.dst v') w') :
    wpList Tryd.prog ops Q (o :: rest) a (W.alloc (.cells mv 45)) := by
  subst hgg
  obtain ⟨ti, tz, hi1, hi2, hi3, hi4, hi5⟩ := infoM
  have k5 : Kp (fun _ => False) W (W.alloc (.cells mv 45)) := (Kp.refl _ _).alloc _
  have hx5 : Lv (W.alloc (.cells mv 45)) W.heap.size mv.toList := Lv.new W _ _
  refine wpList_append_own_src _ hgd s y 54 54 ho base 45 ti tz 24 248 uMs hi1 hi2 hi3 hi4 hi5 (by decide) v k xs hs (ownsRow_keep hown k5 (fun _ _ e => e)) (.slice (some ⟨W.heap.size, 0, none⟩) 1 1) 1 mv.toList hx0 (Src.ofSlice _ uMs ⟨W.heap.size, 0, none⟩ 1 1 mv.toList (by rw [hm]) (fun j u hj => by rw [Addr.add_mid, Nat.zero_add]; exact hx5.cell hj) h1c) (by unfold maxLen; omega) (by omega) (by simp; omega) ?_
  intro v' w' h1 h2 h3
  exact h v' w' h1 (k5.mono (fun _ _ e => e.elim) |>.trans (grownBy_kp h2) (fun b _ e => e))
set_option maxRecDepth 100000 in
set_option maxHeartbeats 3200000 in
theorem fasks2 (h : Fe2 w f g q oq cq n sm cnt (.slice none 0 0)) (self ep : Int) : Calls Tryd.prog 54 #[.pointer (some ⟨f, 0, none⟩), .int .i64 self, .int .i64 ep] w fun e w' => ∃ p c, e = .returned (.slice p 2 c) ∧ Kp (fun _ => False) w w' := by
  have HF : Hid (Fe2 w f g q oq cq n sm cnt (.slice none 0 0)) := h
  have c5 := h.lf.cell (j := 5) rfl
  clear h
  go_enter Tryd.func54, Tryd.ntmps54
  go_wp2
  clear c5
  go_loopg [7, 16] 2 (fun gk rv i wr => ∃ (k : Nat) (xs : List Value), k ≤ 2 ∧ gk = 2 - k ∧ i = .int .i64 k ∧ Hid (Kp (fun _ => False) w wr) ∧ Hid (wr.ownsRow w.heap.size 45 24 rv k xs))
  case atStart => exact ⟨0, [], by omega, rfl, rfl, Kp.refl _ _, World.ownsRow_nil _ _ _ _⟩
  case round =>
    obtain ⟨k, xs, hk, rfl, rfl, HK, HO⟩ := hrel
    obtain ⟨wr0, rfl⟩ : ∃ x, x = wr := ⟨_, rfl⟩
    have hf := HF.out.keep0 HK.out
    by_cases hlt : (k : Int) < 2
    · obtain ⟨nk, hq⟩ : ∃ nk : Int, wr0.cell? ⟨q, oq + k, none⟩ = some (.int .i64 nk) := by
        have hk2 : k = 0 ∨ k = 1 := by omega
        rcases hk2 with rfl | rfl
        · exact ⟨0, hf.q0⟩
        · exact ⟨1, hf.q1⟩
      have hg : wr0.cell? ⟨g, k, none⟩ = some (.slice none 0 0) := by
        have hk2 : k = 0 ∨ k = 1 := by omega
        rcases hk2 with rfl | rfl
        · exact hf.lg.cell (j := 0) rfl
        · exact hf.lg.cell (j := 1) rfl
      have c0 := hf.lf.cell (j := 0) rfl
      have c6 := hf.lf.cell (j := 6) rfl
      have HSZ : Hid (w.heap.size ≤ wr0.heap.size) := HK.out.size
      clear hf
      go_wp2_with (at_builtin; refine wpList_app_msg #[.int .i64 12, .int .i64 self, .int .i64 nk, .int .i64 0, .int .i64 0, .int .i64 4, .int .i64 (k : Int), .int .i64 ep, .int .i64 0, .bool false, .int .i64 0, .int .i64 0, .string ⟨#[]⟩, .int .i64 0, .int .i64 0, .int .i64 0, .int .i64 0, .int .i64 0, .int .u32 0, .int .i64 0, .int .i64 0, .slice none 0 0, .slice none 0 0, .slice none 0 0] rfl (fun u hu => by simp only [List.mem_cons, List.not_mem_nil, or_false] at hu; rcases hu with rfl | rfl | rfl | rfl | rfl | rfl | rfl | rfl | rfl | rfl | rfl | rfl | rfl | rfl | rfl | rfl | rfl | rfl | rfl | rfl | rfl | rfl | rfl | rfl <;> rfl) rfl _ _ rfl w.heap.size k _ xs rfl wr0.heap.size rfl rfl HO.out (by omega) HSZ.out ?_; intro v2 w2 ho2 k2; have HO2 : Hid (w2.ownsRow w.heap.size 45 24 v2 (k + 1) (xs ++ (#[.int .i64 12, .int .i64 self, .int .i64 nk, .int .i64 0, .int .i64 0, .int .i64 4, .int .i64 (k : Int), .int .i64 ep, .int .i64 0, .bool false, .int .i64 0, .int .i64 0, .string ⟨#[]⟩, .int .i64 0, .int .i64 0, .int .i64 0, .int .i64 0, .int .i64 0, .int .u32 0, .int .i64 0, .int .i64 0, .slice none 0 0, .slice none 0 0, .slice none 0 0] : Array Value).toList)) := ho2; have HK2 : Hid (Kp (fun _ => False) w w2) := HK.out.trans k2 (fun b hb e => absurd (ownBlock_lt HO.out e).1 (by omega)); clear ho2 k2)
      go_roundg (2 - (k + 1))
      case rel => exact ⟨k + 1, _, by omega, rfl, by go_num, HK2, HO2⟩
      case measure => omega
    · obtain rfl : k = 2 := by omega
      obtain ⟨p, c, e, _⟩ := own_fl HO.out
      subst e
      clear hf
      go_wp2
      go_ret
      exact ⟨⟨p, c, rfl⟩, HK.out⟩
end
end Go.Proofs.YtmncocmeafcpfaaDoor
