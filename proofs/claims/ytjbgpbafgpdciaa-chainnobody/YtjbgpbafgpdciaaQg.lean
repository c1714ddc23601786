/- Lists in memory, flat; copies of commands. -/
import Derived.Test.YtjbgpbafgpdciaaQs
import Derived.Test.YtjbgpbafgpdciaaQm
namespace Go.Proofs.Ytjbgpbafgpdciaa
set_option linter.unusedVariables false
open Go.RowKit Go.Deep Go.Maps

/-- the cells of a slice's elements, one behind the other, in blocks of which Z holds -/
def Fl (w : World) (Z : Nat → Prop) (p : Option Addr) (cells : List Value) : Prop := ∀ j u, cells[j]? = some u → ∃ b o, p = some ⟨b, o, none⟩ ∧ Z b ∧ w.cell? ⟨b, o + j, none⟩ = some u
theorem Fl.keep {S Z : Nat → Prop} {w w' : World} {p : Option Addr} {cells : List Value} (h : Fl w Z p cells) (k : Kp S w w') (hS : ∀ b, Z b → ¬ S b) : Fl w' Z p cells := fun j u hu => by
  obtain ⟨b, o, e, hz, hc⟩ := h j u hu
  exact ⟨b, o, e, hz, k.cellv hc (hS b hz)⟩
theorem Fl.mono {Z Z' : Nat → Prop} {w : World} {p : Option Addr} {cells : List Value} (h : Fl w Z p cells) (hz : ∀ b, Z b → Z' b) : Fl w Z' p cells := fun j u hu => by
  obtain ⟨b, o, e, hz', hc⟩ := h j u hu
  exact ⟨b, o, e, hz b hz', hc⟩
theorem Fl.src {Z : Nat → Prop} {w : World} {p : Option Addr} {cells : List Value} (h : Fl w Z p cells) {sz n c : Nat} {tx e' : TypeId} (hk : Try.prog.underlying tx = some (.slice e')) (hs : 0 < sz) (hl : cells.length = n * sz) (h1 : ∀ u ∈ cells, u.oneCell' = true) : Src Try.prog sz tx (.slice p n c) n cells w := by
  cases p with
  | none =>
    have h0 : cells = [] := by
      cases cells with
      | nil => rfl
      | cons x l => obtain ⟨b, o, e, _⟩ := h 0 x rfl; cases e
    subst h0
    have hn : n = 0 := by
      rcases Nat.eq_zero_or_pos n with h0 | h0
      · exact h0
      · have := Nat.mul_pos h0 hs; simp at hl; omega
    subst hn
    exact Src.ofNil w hk c
  | some a =>
    refine Src.ofSlice w hk a n c cells hl (fun j u hj => ?_) h1
    obtain ⟨b, o, e, _, hc⟩ := h j u hj
    cases e
    rw [Addr.add_mid]
    exact hc
theorem own_fl {w : World} {base sz n : Nat} {e : TypeId} {v : Value} {cells : List Value} (h : w.ownsRow base e sz v n cells) : ∃ q cap, v = .slice q n cap ∧ Fl w (fun b => base ≤ b ∧ b < w.heap.size) q cells := by
  rcases Joins.ownsRow_forms h with ⟨e1, e2⟩ | ⟨g, cap, e1⟩
  · have hl := h.1
    rw [e2, Nat.zero_mul] at hl
    have h0 := List.eq_nil_of_length_eq_zero hl
    exact ⟨none, 0, by rw [e1, e2], fun j u hu => by rw [h0] at hu; cases hu⟩
  · refine ⟨_, cap, e1, fun j u hu => ⟨g, 0, rfl, ownBlock_lt h (by rw [e1]; rfl), ?_⟩⟩
    have := h.cells (g := g) (by rw [e1]; rfl) j u hu
    rw [Addr.add_mid] at this
    exact this

theorem infoInt : (Try.prog.info? 3).map (fun i => (i.zero, i.size, i.bytes)) = some (some (.int .i64 0), 1, 8) := by kernel_rfl
abbrev encI (z : Int) : Value := .int .i64 z

set_option maxRecDepth 100000 in
set_option maxHeartbeats 800000 in
theorem clone_ints (Z : Nat → Prop) (p : Option Addr) (c : Nat) (zs : List Int) (w : World) (h : Fl w Z p (zs.map encI)) (hn : Hid (zs.length * 8 ≤ 140737488355328)) :
    Calls Try.prog 30 #[.slice p zs.length c] w fun e w' => ∃ v, e = .returned v ∧ Kp (fun _ => False) w w' ∧ w'.ownsRow w.heap.size 3 1 v zs.length (zs.map encI) := by
  obtain ⟨n, hnn⟩ : ∃ n, n = zs.length := ⟨_, rfl⟩
  cases p with
  | none =>
    have h0 : zs = [] := by
      cases zs with
      | nil => rfl
      | cons x l => obtain ⟨b, o, e, _⟩ := h 0 (encI x) rfl; cases e
    subst h0
    have hne := fun w => Lib.run_eql_slice_nil (P := Try.prog) w 32 3 none 0 c 0 0 Try.underlying32
    clear h hn hnn
    go_enter Try.func30, Try.ntmps30
    go_wp2
    go_ret
    exact ⟨_, rfl, Kp.refl _ _, World.ownsRow_nil _ _ _ _⟩
  | some a =>
    have hne := fun w => Lib.run_eql_slice_nil (P := Try.prog) w 32 3 (some a) n c 0 0 Try.underlying32
    have HF : Hid (Fl w Z (some a) (zs.map encI)) := h
    have HNN : Hid (n = zs.length) := hnn
    rw [← hnn] at hn ⊢
    clear h hnn
    go_enter Try.func30, Try.ntmps30
    obtain ⟨ti, hi0, hz0, hz1, hz2⟩ := info_parts infoInt
    go_wp2_with (at_builtin; go_must (refine wpList_append_own_src _ rfl _ _ 32 32 rfl w.heap.size 3 ti (.int .i64 0) 1 8 Try.underlying32 hi0 hz0 hz1 hz2 rfl (by decide) _ 0 [] rfl (by exact World.ownsRow_made w #[] 0 (Nat.le_refl _) (by unfold maxLen; omega) rfl) _ n (zs.map encI) rfl ((HF.out.keep ((Kp.refl (fun _ => False) w).alloc (.cells #[] 3)) (fun _ _ => id)).src Try.underlying32 (by decide) (by rw [List.length_map, HNN.out]; omega) (fun u hu => by obtain ⟨z, _, rfl⟩ := List.mem_map.1 hu; rfl)) (by have := hn.out; unfold maxLen; omega) (by have := hn.out; omega) (by simp) ?_); intro v' w3 hown' hk3 hblk3)
    go_ret
    have k3 := grownBy_kp hk3
    refine ⟨_, rfl, Kp.trans ((Kp.refl _ _).alloc _) k3 (fun b hb e => ?_), by simpa using hown'⟩
    have e' : some w.heap.size = some b := e
    have := Option.some.inj e'
    omega

/-- a command, but its nodes: the numbers and the key -/
structure Cs0 where
  (id kind : Int) (key : ByteArray) (blob other index node size sum k m : Int)
abbrev cmdA (c : Cs0) (nv : Value) : Array Value := #[.int .i64 c.id, .int .i64 c.kind, .string c.key, .int .i64 c.blob, .int .i64 c.other, .int .i64 c.index, .int .i64 c.node, .int .i64 c.size, .int .u32 c.sum, .int .i64 c.k, .int .i64 c.m, nv]
abbrev zeroC : Array Value := #[.int .i64 0, .int .i64 0, .string ⟨#[]⟩, .int .i64 0, .int .i64 0, .int .i64 0, .int .i64 0, .int .i64 0, .int .u32 0, .int .i64 0, .int .i64 0, .slice none 0 0]
theorem cmd_one (c : Cs0) {v : Value} (hv : v.oneCell' = true) : (cmdA c v).toList.toArray.all (·.oneCell') = true := all_oneCell_toArray (fun x hx => by
  simp only [List.mem_cons, List.not_mem_nil, or_false] at hx
  rcases hx with rfl | rfl | rfl | rfl | rfl | rfl | rfl | rfl | rfl | rfl | rfl | rfl <;> first | rfl | exact hv)
theorem szCmd : (Try.prog.info? 34).map (·.size) = some 12 := by kernel_rfl
theorem dsCmd : ∃ d, Try.prog.underlying 34 = some d ∧ d.isRow = true := ⟨_, Try.underlying34, rfl⟩

set_option maxRecDepth 100000 in
set_option maxHeartbeats 1600000 in
theorem clone_cmd (c : Cs0) (Z : Nat → Prop) (p : Option Addr) (cap : Nat) (zs : List Int) (w : World) (h : Fl w Z p (zs.map encI)) (hn : Hid (zs.length * 8 ≤ 140737488355328)) :
    Calls Try.prog 23 #[.agg (cmdA c (.slice p zs.length cap))] w fun e w' => ∃ q cq, e = .returned (.agg (cmdA c (.slice q zs.length cq))) ∧ Kp (fun _ => False) w w' ∧ Fl w' (fun b => w.heap.size ≤ b ∧ b < w'.heap.size) q (zs.map encI) := by
  have H : Hid (∀ u, Kp (fun _ => False) w u → Calls _ _ _ u _) := fun u k => clone_ints Z p cap zs u (h.keep k (fun _ _ => id)) hn
  obtain ⟨n, hnn⟩ : ∃ n, n = zs.length := ⟨_, rfl⟩
  have HNN : Hid (n = zs.length) := hnn
  rw [← hnn] at H ⊢
  clear h hn hnn
  go_enter Try.func23, Try.ntmps23
  go_wp2_with fail
  obtain ⟨u, hu⟩ : ∃ x, x = (w.alloc (.cells (cmdA c (.slice p n cap)) 34)).alloc (.cells zeroC 34) := ⟨_, rfl⟩
  have z1 : (w.alloc (.cells (cmdA c (.slice p n cap)) 34)).heap.size = w.heap.size + 1 := by simp
  have HL1 : Hid (Lv u w.heap.size (cmdA c (.slice p n cap)).toList) := by rw [hu]; exact (Lv.new w _ _).keep ((Kp.refl (fun _ => False) _).alloc _) id
  have HL2 : Hid (Lv u (w.heap.size + 1) zeroC.toList) := by rw [hu, ← z1]; exact Lv.new _ _ _
  have k0 : Kp (fun _ => False) w u := by rw [hu]; exact ((Kp.refl _ _).alloc _).alloc _
  have e0 : (w.alloc (.cells (cmdA c (.slice p n cap)) 34)).alloc (.cells zeroC 34) = u := hu.symm
  rw [show ((w.alloc (.cells (cmdA c (.slice p n cap)) 34)).alloc (.cells #[.int .i64 0, .int .i64 0, .string ⟨#[]⟩, .int .i64 0, .int .i64 0, .int .i64 0, .int .i64 0, .int .i64 0, .int .u32 0, .int .i64 0, .int .i64 0, .slice none 0 0] 34)) = u from e0]
  clear e0 hu z1
  obtain ⟨g, hg⟩ : ∃ g, g = w.heap.size := ⟨_, rfl⟩
  obtain ⟨r, hr⟩ : ∃ r, r = w.heap.size + 1 := ⟨_, rfl⟩
  rw [← hg] at HL1
  rw [← hr] at HL2
  rw [← hr, ← hg]
  have HGR : Hid (w.heap.size ≤ g ∧ w.heap.size ≤ r ∧ g ≠ r ∧ g < u.heap.size ∧ r < u.heap.size) := by
    show _ ∧ _
    have h1 := HL1.out.lt (by simp)
    have h2 := HL2.out.lt (by decide)
    omega
  clear hg hr
  refine (H.out u k0).mono ?_
  rintro e w1 ⟨v, rfl, k1, hown⟩
  obtain ⟨q, cq, rfl, hfl⟩ := own_fl hown
  have HFl : Hid (Fl w1 (fun b => u.heap.size ≤ b ∧ b < w1.heap.size) q (zs.map encI)) := hfl
  have HL1a : Hid (Lv w1 g (cmdA c (.slice p n cap)).toList) := HL1.out.keep k1 id
  have HL2a : Hid (Lv w1 r zeroC.toList) := HL2.out.keep k1 id
  have c11 : w1.cell? ⟨g, 11, none⟩ = some (.slice p n cap) := HL1a.out.cell (j := 11) rfl
  have f11 : w1.frozen? ⟨g, 11, none⟩ = false := HL1a.out.fz (show 11 < 12 by omega)
  have HF : Hid (Lv (w1.setCell ⟨g, 11, none⟩ (.slice q n cq)) g (cmdA c (.slice q n cq)).toList ∧ Lv (w1.setCell ⟨g, 11, none⟩ (.slice q n cq)) r zeroC.toList ∧ Kp (fun b => b = g) w1 (w1.setCell ⟨g, 11, none⟩ (.slice q n cq))) := by
    have ks : Kp (fun b => b = g) w1 (w1.setCell ⟨g, 11, none⟩ (.slice q n cq)) := (Kp.refl (fun b => b = g) w1).setCell (fun _ => rfl) _
    exact ⟨HL1a.out.set1 11 _ (show 11 < 12 by omega), HL2a.out.keep ks (fun e => HGR.out.2.2.1 e.symm), ks⟩
  have HO : Hid ((cmdA c (.slice q n cq)).toList.toArray.all (·.oneCell') = true) := cmd_one _ rfl
  clear HL1 HL2 H hown hfl
  go_wp2_with (first
    | (refine wpList_load_all rfl 34 _ rfl 12 g (cmdA c (.slice q n cq)).toList rfl HF.out.1 dsCmd szCmd rfl ?_)
    | (refine wpList_store_all rfl 34 _ _ rfl 12 r zeroC.toList (cmdA c (.slice q n cq)).toList rfl rfl HF.out.2.1 szCmd rfl rfl HO.out ?_; intro w3 hl3 k3))
  refine bodyPost_ret (res_cell Try.results23 _ _ r _ rfl (hl3.load dsCmd szCmd rfl)) rfl ?_
  have kk : Kp (fun b => b = g ∨ b = r) w1 w3 := (HF.out.2.2.mono (fun _ _ e => Or.inl e)).trans k3 (fun _ _ e => Or.inr e)
  refine ⟨q, ⟨cq, rfl⟩, (k0.trans k1 (fun _ _ e => e)).trans kk (fun b hb e => by have := HGR.out; omega), ?_⟩
  refine (HFl.out.keep kk (fun b hb e => by have := HGR.out; omega)).mono (fun b hb => ⟨Nat.le_trans k0.size hb.1, Nat.lt_of_lt_of_le hb.2 kk.size⟩)
end Go.Proofs.Ytjbgpbafgpdciaa
