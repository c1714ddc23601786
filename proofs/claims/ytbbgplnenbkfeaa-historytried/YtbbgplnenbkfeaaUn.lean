/- The call that has an effect (laid by scripts/mkun.py). -/
import Derived.Test.YtbbgplnenbkfeaaUm
namespace Go.Proofs.Ytbbgplnenbkfeaa
set_option linter.unusedVariables false
set_option linter.unusedSimpArgs false
open Go.RowKit Go.Deep Go.Maps

def pickP (cs : List Hc) (kd : Int) (M : Hc → Bool) : Int := if 0 ≤ fidx cs (isTold kd) then fidx cs (isTold kd) else fidx cs (mayE kd M)
theorem fidx_lt {cs : List Hc} {P : Hc → Bool} : fidx cs P < (cs.length : Int) ∨ fidx cs P = -1 := by
  unfold fidx
  cases h : cs.findIdx? P with
  | none => right; rfl
  | some i =>
    left
    rw [List.findIdx?_eq_some_iff_getElem] at h
    have := h.1
    show (i : Int) < _
    omega
theorem fidx_ge {cs : List Hc} {P : Hc → Bool} : 0 ≤ fidx cs P ∨ fidx cs P = -1 := by
  unfold fidx
  cases h : cs.findIdx? P with
  | none => right; rfl
  | some i => left; show (0 : Int) ≤ i; omega
theorem fidx_has {cs : List Hc} {P : Hc → Bool} {c : Hc} (hc : c ∈ cs) (hp : P c = true) : 0 ≤ fidx cs P ∧ fidx cs P < (cs.length : Int) := by
  unfold fidx
  cases h : cs.findIdx? P with
  | none =>
    rw [List.findIdx?_eq_none_iff] at h
    rw [h c hc] at hp
    cases hp
  | some i =>
    rw [List.findIdx?_eq_some_iff_getElem] at h
    have := h.1
    show (0 : Int) ≤ i ∧ (i : Int) < _
    omega
theorem pickP_has {cs : List Hc} {kd : Int} {M : Hc → Bool} {c : Hc} (hc : c ∈ cs) (hp : mayE kd M c = true) : 0 ≤ pickP cs kd M ∧ pickP cs kd M < (cs.length : Int) := by
  unfold pickP
  split
  · rename_i h
    rcases fidx_lt (cs := cs) (P := isTold kd) with e | e
    · exact ⟨h, e⟩
    · omega
  · exact fidx_has hc hp

set_option maxRecDepth 100000 in
set_option maxHeartbeats 3200000 in
theorem picka_ok (Z : Nat → Prop) (p : Option Addr) (cap : Nat) (cs : List Hc) (kd : Int) (gp pp : Nat) (gt : Int) (px : By) (w : World) (h : Fl w Z p (hflat cs)) (hok : ∀ c ∈ cs, c.ok w) (hl : Hid (cs.length ≤ 1000)) (hp : px.ok w) (hgt : w.cell? ⟨gp, 0, none⟩ = some (.int .i64 gt)) (h4 : w.cell? ⟨pp, 4, none⟩ = some px.v) :
    Calls Try.prog 33 #[.slice p cs.length cap, .int .i64 kd, .func (.func 34) #[] #[.pointer (some ⟨gp, 0, none⟩), .pointer (some ⟨pp, 0, none⟩)]] w fun e w' => e = .returned (.int .i64 (pickP cs kd (mayP gt px.xs))) ∧ Kp (fun _ => False) w w' := by
  obtain ⟨w1, hw1⟩ : ∃ x, x = w.alloc (.cells #[.int .i64 kd] 3) := ⟨_, rfl⟩
  obtain ⟨w2, hw2⟩ : ∃ x, x = w1.alloc (.cells #[.func (.func 34) #[] #[.pointer (some ⟨gp, 0, none⟩), .pointer (some ⟨pp, 0, none⟩)]] 69) := ⟨_, rfl⟩
  have z1 : w1.heap.size = w.heap.size + 1 := by rw [hw1]; simp
  have HB : Hid (Kp (fun _ => False) w w2 ∧ w2.cell? ⟨w.heap.size, 0, none⟩ = some (.int .i64 kd) ∧ w2.cell? ⟨w.heap.size + 1, 0, none⟩ = some (.func (.func 34) #[] #[.pointer (some ⟨gp, 0, none⟩), .pointer (some ⟨pp, 0, none⟩)])) := by
    have k1 : Kp (fun _ => False) w w1 := by rw [hw1]; exact (Kp.refl _ _).alloc _
    have k2 : Kp (fun _ => False) w1 w2 := by rw [hw2]; exact (Kp.refl _ _).alloc _
    have l1 : Lv w1 w.heap.size [.int .i64 kd] := by rw [hw1]; exact Lv.new w _ _
    have l2 : Lv w2 w1.heap.size [.func (.func 34) #[] #[.pointer (some ⟨gp, 0, none⟩), .pointer (some ⟨pp, 0, none⟩)]] := by rw [hw2]; exact Lv.new w1 _ _
    rw [z1] at l2
    exact ⟨k1.trans k2 (fun _ _ e => e), (l1.keep k2 id).cell (j := 0) rfl, l2.cell (j := 0) rfl⟩
  have H1 : Hid (∀ u, Kp (fun _ => False) w2 u → Calls Try.prog 30 #[.slice p cs.length cap, .func (.func 42) #[] #[.pointer (some ⟨w.heap.size, 0, none⟩)]] u fun e w' => e = .returned (.int .i64 (fidx cs (isTold kd))) ∧ Kp (fun _ => False) u w') := fun u ku => idx1_ok Z p cap cs w.heap.size kd u (h.keep (HB.out.1.trans ku (fun _ _ e => e)) (fun _ _ => id)) (fun c hc => (hok c hc).keep (HB.out.1.trans ku (fun _ _ e => e))) hl (ku.cellv HB.out.2.1 id)
  have H2 : Hid (∀ u, Kp (fun _ => False) w2 u → Calls Try.prog 30 #[.slice p cs.length cap, .func (.func 43) #[] #[.pointer (some ⟨w.heap.size, 0, none⟩), .pointer (some ⟨w.heap.size + 1, 0, none⟩)]] u fun e w' => e = .returned (.int .i64 (fidx cs (mayE kd (mayP gt px.xs)))) ∧ Kp (fun _ => False) u w') := fun u ku => idx2a_ok Z p cap cs w.heap.size (w.heap.size + 1) kd gp pp gt px u (h.keep (HB.out.1.trans ku (fun _ _ e => e)) (fun _ _ => id)) (fun c hc => (hok c hc).keep (HB.out.1.trans ku (fun _ _ e => e))) hl (ku.cellv HB.out.2.1 id) (ku.cellv HB.out.2.2 id) (hp.keep (HB.out.1.trans ku (fun _ _ e => e))) ((HB.out.1.trans ku (fun _ _ e => e)).cellv hgt id) ((HB.out.1.trans ku (fun _ _ e => e)).cellv h4 id)
  unfold pickP
  obtain ⟨f1, hf1⟩ : ∃ x, x = fidx cs (isTold kd) := ⟨_, rfl⟩
  obtain ⟨f2, hf2⟩ : ∃ x, x = fidx cs (mayE kd (mayP gt px.xs)) := ⟨_, rfl⟩
  rw [← hf1] at H1 ⊢
  rw [← hf2] at H2 ⊢
  obtain ⟨n, hn⟩ : ∃ n, n = cs.length := ⟨_, rfl⟩
  rw [← hn] at H1 H2 ⊢
  rw [hw1] at hw2
  clear h hok hl hf1 hf2 hn z1 hw1 hp hgt h4
  by_cases hf : 0 ≤ f1
  · rw [if_pos hf]
    go_enter Try.func33, Try.ntmps33
    go_wp2_with (go_at_call 30; rw [← hw2]; refine (H1.out _ (Kp.refl _ _)).mono ?_; rintro e9 w9 ⟨rfl, k9⟩)
    go_ret
    exact ⟨rfl, HB.out.1.trans k9 (fun _ _ e => e)⟩
  · rw [if_neg hf]
    go_enter Try.func33, Try.ntmps33
    go_wp2_with (first
      | (go_at_call 30; rw [← hw2]; refine (H1.out _ (Kp.refl _ _)).mono ?_; rintro e9 w9 ⟨rfl, k9⟩; clear H1)
      | (go_at_call 30; refine (H2.out _ k9).mono ?_; rintro e8 w8 ⟨rfl, k8⟩))
    go_ret
    exact ⟨rfl, (HB.out.1.trans k9 (fun _ _ e => e)).trans k8 (fun _ _ e => e)⟩
set_option maxRecDepth 100000 in
set_option maxHeartbeats 3200000 in
theorem pickb_ok (Z : Nat → Prop) (p : Option Addr) (cap : Nat) (cs : List Hc) (kd : Int) (w : World) (h : Fl w Z p (hflat cs)) (hok : ∀ c ∈ cs, c.ok w) (hl : Hid (cs.length ≤ 1000)) :
    Calls Try.prog 33 #[.slice p cs.length cap, .int .i64 kd, .func (.func 35) #[] #[]] w fun e w' => e = .returned (.int .i64 (pickP cs kd ((fun _ => true)))) ∧ Kp (fun _ => False) w w' := by
  obtain ⟨w1, hw1⟩ : ∃ x, x = w.alloc (.cells #[.int .i64 kd] 3) := ⟨_, rfl⟩
  obtain ⟨w2, hw2⟩ : ∃ x, x = w1.alloc (.cells #[.func (.func 35) #[] #[]] 69) := ⟨_, rfl⟩
  have z1 : w1.heap.size = w.heap.size + 1 := by rw [hw1]; simp
  have HB : Hid (Kp (fun _ => False) w w2 ∧ w2.cell? ⟨w.heap.size, 0, none⟩ = some (.int .i64 kd) ∧ w2.cell? ⟨w.heap.size + 1, 0, none⟩ = some (.func (.func 35) #[] #[])) := by
    have k1 : Kp (fun _ => False) w w1 := by rw [hw1]; exact (Kp.refl _ _).alloc _
    have k2 : Kp (fun _ => False) w1 w2 := by rw [hw2]; exact (Kp.refl _ _).alloc _
    have l1 : Lv w1 w.heap.size [.int .i64 kd] := by rw [hw1]; exact Lv.new w _ _
    have l2 : Lv w2 w1.heap.size [.func (.func 35) #[] #[]] := by rw [hw2]; exact Lv.new w1 _ _
    rw [z1] at l2
    exact ⟨k1.trans k2 (fun _ _ e => e), (l1.keep k2 id).cell (j := 0) rfl, l2.cell (j := 0) rfl⟩
  have H1 : Hid (∀ u, Kp (fun _ => False) w2 u → Calls Try.prog 30 #[.slice p cs.length cap, .func (.func 42) #[] #[.pointer (some ⟨w.heap.size, 0, none⟩)]] u fun e w' => e = .returned (.int .i64 (fidx cs (isTold kd))) ∧ Kp (fun _ => False) u w') := fun u ku => idx1_ok Z p cap cs w.heap.size kd u (h.keep (HB.out.1.trans ku (fun _ _ e => e)) (fun _ _ => id)) (fun c hc => (hok c hc).keep (HB.out.1.trans ku (fun _ _ e => e))) hl (ku.cellv HB.out.2.1 id)
  have H2 : Hid (∀ u, Kp (fun _ => False) w2 u → Calls Try.prog 30 #[.slice p cs.length cap, .func (.func 43) #[] #[.pointer (some ⟨w.heap.size, 0, none⟩), .pointer (some ⟨w.heap.size + 1, 0, none⟩)]] u fun e w' => e = .returned (.int .i64 (fidx cs (mayE kd ((fun _ => true))))) ∧ Kp (fun _ => False) u w') := fun u ku => idx2b_ok Z p cap cs w.heap.size (w.heap.size + 1) kd u (h.keep (HB.out.1.trans ku (fun _ _ e => e)) (fun _ _ => id)) (fun c hc => (hok c hc).keep (HB.out.1.trans ku (fun _ _ e => e))) hl (ku.cellv HB.out.2.1 id) (ku.cellv HB.out.2.2 id)
  unfold pickP
  obtain ⟨f1, hf1⟩ : ∃ x, x = fidx cs (isTold kd) := ⟨_, rfl⟩
  obtain ⟨f2, hf2⟩ : ∃ x, x = fidx cs (mayE kd ((fun _ => true))) := ⟨_, rfl⟩
  rw [← hf1] at H1 ⊢
  rw [← hf2] at H2 ⊢
  obtain ⟨n, hn⟩ : ∃ n, n = cs.length := ⟨_, rfl⟩
  rw [← hn] at H1 H2 ⊢
  rw [hw1] at hw2
  clear h hok hl hf1 hf2 hn z1 hw1 
  by_cases hf : 0 ≤ f1
  · rw [if_pos hf]
    go_enter Try.func33, Try.ntmps33
    go_wp2_with (go_at_call 30; rw [← hw2]; refine (H1.out _ (Kp.refl _ _)).mono ?_; rintro e9 w9 ⟨rfl, k9⟩)
    go_ret
    exact ⟨rfl, HB.out.1.trans k9 (fun _ _ e => e)⟩
  · rw [if_neg hf]
    go_enter Try.func33, Try.ntmps33
    go_wp2_with (first
      | (go_at_call 30; rw [← hw2]; refine (H1.out _ (Kp.refl _ _)).mono ?_; rintro e9 w9 ⟨rfl, k9⟩; clear H1)
      | (go_at_call 30; refine (H2.out _ k9).mono ?_; rintro e8 w8 ⟨rfl, k8⟩))
    go_ret
    exact ⟨rfl, (HB.out.1.trans k9 (fun _ _ e => e)).trans k8 (fun _ _ e => e)⟩
theorem hflat_two (c d : Hc) : hflat [c, d] = hcell c ++ hcell d := by show hcell c ++ (hcell d ++ []) = _; rw [List.append_nil]
set_option maxRecDepth 100000 in
theorem wpList_app_h2 {ops : Array Oper} {rest : List Oper} {op : Oper} {a : Act} {Q : Exit → Act → World → Prop} {w0 v : World} {a' : Value} {cs : List Hc} (h : Rd w0 v a' cs) (c d : Hc) (hc : c.ok w0) (hd : d.ok w0) (hz : cs.length ≤ 1000)
    (hgd : op.guard = none) (o1 o2 : Operand) (ho : op.op = .call { callee := .builtin .append, args := #[o1, o2], argTypes := #[41, 41] }) (h1 : a.eval o1 = a') (h2 : a.eval o2 = .slice (some ⟨v.heap.size, 0, none⟩) 2 2)
    (hK : ∀ a2 w3, Rd w0 w3 a2 (cs ++ [c, d]) → Kp (fun b => a'.ownBlock = some b) v w3 → (∀ b, a2.ownBlock = some b → a'.ownBlock = some b ∨ v.heap.size ≤ b) → wpList Try.prog ops Q rest (a.put op.dst a2) w3) :
    wpList Try.prog ops Q (op :: rest) a (v.alloc (.cells (hcell c ++ hcell d).toArray 65)) := by
  obtain ⟨ti, tz, hi1, hi2, hi3, hi4, hi5⟩ := infoHc
  have ka : Kp (fun _ => False) v (v.alloc (.cells (hcell c ++ hcell d).toArray 65)) := (Kp.refl _ _).alloc _
  have hr := h.keep ka
  have hlv := Lv.new v (hcell c ++ hcell d).toArray 65
  have h1c : ∀ u ∈ hcell c ++ hcell d, u.oneCell' = true := fun u hu => by
    rcases List.mem_append.1 hu with e | e
    · exact hc.one u e
    · exact hd.one u e
  have hs0 := h.k.size
  have z1 : (v.alloc (.cells (hcell c ++ hcell d).toArray 65)).heap.size = v.heap.size + 1 := by simp
  refine wpList_append_own_src _ hgd o1 o2 41 41 ho w0.heap.size 65 ti tz 10 120 Try.underlying41 hi1 hi2 hi3 hi4 hi5 (by decide) a' cs.length (hflat cs) h1 hr.o _ 2 (hcell c ++ hcell d) h2 (Src.ofSlice _ Try.underlying41 ⟨v.heap.size, 0, none⟩ 2 2 (hcell c ++ hcell d) rfl (fun j u hj => by rw [Addr.add_mid, Nat.zero_add]; exact hlv.cell hj) h1c) (by unfold maxLen; omega) (by omega) (by omega) ?_
  intro a2 w3 hown hk hblk
  have k3 := grownBy_kp hk
  refine hK a2 w3 ⟨?_, hr.k.app hr.o k3, fun y hy => ?_⟩ ((ka.mono (fun _ _ e => e.elim)).trans k3 (fun _ _ e => e)) (fun b hb => ?_)
  · rw [List.length_append, hflat_append, hflat_two]
    exact hown
  · rcases List.mem_append.1 hy with e | e
    · exact h.c y e
    · simp at e
      rcases e with rfl | rfl
      · exact hc
      · exact hd
  · rcases hblk with e2 | e2
    · exact Or.inl (by rw [← e2]; exact hb)
    · rw [e2] at hb
      have := Option.some.inj hb
      right; omega
end Go.Proofs.Ytbbgplnenbkfeaa
