/- frame.ReadCmd's closure. -/
import Derived.Test.YtippipeebkkghaaGreatDoorOe
import Derived.Test.YtippipeebkkghaaGreatDoorNh
namespace Go.Proofs.YtippipeebkkghaaGreatDoor
set_option linter.unusedVariables false
set_option linter.unusedSimpArgs false
open Go.RowKit Go.Deep

theorem str_size (xs : List Nat) : (str xs).size = xs.length := by unfold str; rw [strOfNums_size, List.length_map]
theorem wpList_ldw {ops : Array Oper} {rest : List Oper} {op : Oper} {a : Act} {w : World} {Q : Exit → Act → World → Prop} (hw : Region.wanted op (yielded ops a.tmps) = true) (ty : TypeId) (x : Operand) (ho : op.op = .load ty x)
    (g : Nat) (hx : a.eval x = .pointer (some ⟨g, 0, none⟩)) (cs : List Value) (d : TypeDesc) (hl : Lv w g cs)
    (hu : Tryz.prog.underlying ty = some d) (hd : d.isRow = true) (hi : (Tryz.prog.info? ty).map (·.size) = some cs.length)
    (h : wpList Tryz.prog ops Q rest (a.put op.dst (.agg cs.toArray)) w) : wpList Tryz.prog ops Q (op :: rest) a w :=
  wpList_step fun K hK => by simp only [hw, if_true]; exact wp_load_mid ty x ho g 0 hx cs d hl.r hu hd hi (hK _ _ h)
/-- the command of bytes, plain -/
def okC (xs : List Nat) : Option Cp := (rdCmd xs).bind (fun p => if p.2 = [] ∧ mayC (csOf p.1) (intsOf p.1.nodes) = true then some p.1 else none)
/-- what the closure answers -/
def R1Res (xs : List Nat) (w : World) (e : Ending) (w' : World) : Prop := match okC xs with
  | some c => ∃ q cap, e = .returned (.agg (cmdA (csOf c) (.slice q c.nodes.length cap))) ∧ Fl w' (fun b => w.heap.size ≤ b ∧ b < w'.heap.size) q ((intsOf c.nodes).map encI)
  | none => e = .panicked gaveUp

set_option maxRecDepth 100000 in
set_option maxHeartbeats 3200000 in
theorem rc1_ok {Z : Nat → Prop} (r : Nat) (xs : List Nat) (w : World) (h : Cu Z w r xs) (hb : ∀ x ∈ xs, x < 256) (hZ : ∀ b, Z b → b < w.heap.size) : Calls Tryz.prog 107 #[.pointer (some ⟨r, 0, none⟩)] w fun e w' => R1Res xs w e w' ∧ Kp (fun b => b = r) w w' := by
  have hr : r < w.heap.size := by
    obtain ⟨q, m, c, h1, _⟩ := h
    exact World.block_lt_of_cell? _ _ h1
  obtain ⟨h2, hh2⟩ : ∃ x, x = w.heap.size := ⟨_, rfl⟩
  obtain ⟨u, hu⟩ : ∃ x, x = w.alloc (.cells zeroC 31) := ⟨_, rfl⟩
  have k0 : Kp (fun _ => False) w u := by rw [hu]; exact (Kp.refl _ _).alloc _
  have HLh : Hid (Lv u h2 zeroC.toList) := by rw [hu, hh2]; exact Lv.new w _ _
  have HK0 : Hid (Kp (fun b => b = r) w u) := k0.mono (fun _ _ e => e.elim)
  have HO : Hid (r < h2 ∧ h2 = w.heap.size ∧ u.heap.size = h2 + 1) := by
    have : u.heap.size = w.heap.size + 1 := by rw [hu]; simp
    show _ ∧ _
    omega
  have HC : Hid (Calls _ _ _ u _) := rcmd_ok r xs u (h.keep k0 id (fun _ _ => id)) hb (fun b hb => by have := hZ b hb; have := HO.out; omega)
  have HB : Hid (∀ x ∈ xs, x < 256) := hb
  have HPan : Hid (∀ (a : Act) (w' : World), a.defers = [] → okC xs = none → Kp (fun b => b = r) w w' → bodyPost Tryz.prog Tryz.f107 (fun e w' => R1Res xs w e w' ∧ Kp (fun b => b = r) w w') (.panic gaveUp) a w') := fun a w' hd hn k => ⟨hd, by unfold R1Res; rw [hn], k⟩
  have hu' : w.alloc (.cells #[.int .i64 0, .int .i64 0, .string ⟨#[]⟩, .int .i64 0, .int .i64 0, .int .i64 0, .int .i64 0, .int .i64 0, .int .u32 0, .int .i64 0, .int .i64 0, .slice none 0 0] 31) = u := hu.symm
  have HNy : Hid (∀ z, Calls _ _ _ z _) := need_yes (.pointer (some ⟨r, 0, none⟩))
  have HNn : Hid (∀ z, Calls _ _ _ z _) := need_no (.pointer (some ⟨r, 0, none⟩))
  clear h hb hZ hr hu k0
  go_enter Tryz.func107, Tryz.ntmps107
  go_wp2_with fail
  refine HC.out.mono ?_
  rintro e9 w1 ⟨hq, k1⟩
  have HK1 : Hid (Kp (fun b => b = r) w w1) := HK0.out.trans k1 (fun _ _ e => e)
  have HLh1 : Hid (Lv w1 h2 zeroC.toList) := HLh.out.keep k1 (fun e => by have := HO.out; omega)
  have HU1 : Hid (h2 + 1 ≤ w1.heap.size) := by have := k1.size; have := HO.out; show _ ≤ _; omega
  rw [← hh2]
  clear hu' hh2 k1 HC
  unfold RcmRes at hq
  cases hm : rdCmd xs with
  | none =>
    rw [hm] at hq
    have he : e9 = .panicked gaveUp := hq
    subst he
    exact HPan.out _ _ rfl (by unfold okC; rw [hm]; rfl) HK1.out
  | some p =>
  obtain ⟨c, t⟩ := p
  rw [hm] at hq
  obtain ⟨q, cap, he, hfl, hc⟩ := hq
  subst he
  have HM : Hid (rdCmd xs = some (c, t)) := hm
  have HC1 : Hid (Cu Z w1 r t) := hc
  have HF1 : Hid (Fl w1 (fun b => u.heap.size ≤ b ∧ b < w1.heap.size) q ((intsOf c.nodes).map encI)) := hfl
  have HFit : Hid (c.fit) := (rdCmd_back HB.out hm).2.1
  obtain ⟨xa, hxa⟩ : ∃ x, x = cmdA (csOf c) (.slice q c.nodes.length cap) := ⟨_, rfl⟩
  have HXl : Hid (xa.toList.length = 12) := by rw [hxa]; rfl
  have HX1 : Hid (xa.toList.toArray.all (·.oneCell') = true) := by rw [hxa]; exact cmd_one _ rfl
  have HMay : Hid (∀ z, Fl z (fun b => u.heap.size ≤ b ∧ b < w1.heap.size) q ((intsOf c.nodes).map encI) → Calls Tryz.prog 46 #[.agg xa] z fun e w' => e = .returned (.bool (mayC (csOf c) (intsOf c.nodes))) ∧ Kp (fun _ => False) z w') := fun z hz => by
    rw [hxa]
    exact mayCmd_ok (csOf c) _ q c.nodes.length cap (intsOf c.nodes) z hz (by unfold intsOf; rw [List.length_map]) (by have := HFit.out.l; omega) (by show (str c.key).size ≤ _; rw [str_size]; have := HFit.out.k; omega)
  have HXa : Hid (xa = cmdA (csOf c) (.slice q c.nodes.length cap)) := hxa
  rw [← hxa]
  clear hc hfl hm hxa
  obtain ⟨dC, hdC, hdR⟩ := dsCmd
  go_upto_region 2 with (refine wpList_store_all rfl 31 _ _ rfl 12 w1.heap.size zeroC.toList xa.toList rfl (by rw [Array.toArray_toList]; rfl) (by exact Lv.new w1 _ _) szCmd rfl HXl.out HX1.out ?_; intro w2 hl2 k2)
  have k12 : Kp (fun _ => False) w1 w2 := ((Kp.refl (fun _ => False) w1).alloc (.cells zeroC 31)).trans k2 (fun b hb e => by omega)
  obtain ⟨g, hg⟩ : ∃ x, x = w1.heap.size := ⟨_, rfl⟩
  rw [← hg] at hl2 ⊢
  have HL2 : Hid (Lv w2 g xa.toList) := hl2
  have HLh2 : Hid (Lv w2 h2 zeroC.toList) := HLh1.out.keep k12 id
  have HC2 : Hid (Cu Z w2 r t) := HC1.out.keep k12 id (fun _ _ => id)
  have HF2 : Hid (Fl w2 (fun b => u.heap.size ≤ b ∧ b < w1.heap.size) q ((intsOf c.nodes).map encI)) := HF1.out.keep k12 (fun _ _ => id)
  have HK2 : Hid (Kp (fun b => b = r) w w2) := HK1.out.trans k12 (fun _ _ e => e.elim)
  have HG : Hid (g = w1.heap.size ∧ h2 < g) := ⟨hg, by have := HU1.out; omega⟩
  clear k2 k12 hl2 hg HC1 HF1
  have HD : Hid (Calls _ _ _ w2 _) := done_ok r t w2 HC2.out
  go_wp2_with fail
  refine HD.out.mono ?_
  rintro e9 w9 ⟨rfl, hw9⟩
  have hw8 := hw9.symm
  subst hw8
  clear hw9 HD
  cases t with
  | cons y t' =>
    have HOk : Hid (okC xs = none) := by show _ = _; unfold okC; rw [HM.out]; rfl
    go_wp2_with fail
    refine (HNn.out w2).mono ?_
    rintro e9 w9 ⟨rfl, hw9⟩
    have hw8 := hw9.symm
    subst hw8
    exact HPan.out _ _ rfl HOk.out HK2.out
  | nil =>
    go_wp2_with (refine wpList_ldw (by first | rfl | go_simp) 31 _ rfl g rfl xa.toList dC HL2.out hdC hdR (by rw [szCmd, HXl.out]) ?_; rw [Array.toArray_toList])
    refine (HMay.out w2 HF2.out).mono ?_
    rintro e9 w3 ⟨rfl, k3⟩
    have HL3 : Hid (Lv w3 g xa.toList) := HL2.out.keep k3 id
    have HLh3 : Hid (Lv w3 h2 zeroC.toList) := HLh2.out.keep k3 id
    have HF3 : Hid (Fl w3 (fun b => u.heap.size ≤ b ∧ b < w1.heap.size) q ((intsOf c.nodes).map encI)) := HF2.out.keep k3 (fun _ _ => id)
    have HK3 : Hid (Kp (fun b => b = r) w w3) := HK2.out.trans k3 (fun _ _ e => e.elim)
    have HZ3 : Hid (w1.heap.size ≤ w3.heap.size) := by have h1 := HL2.out.lt (by rw [HXl.out]; decide); have h2 := HG.out; have h3 := k3.size; show _ ≤ _; omega
    clear k3
    cases hM : mayC (csOf c) (intsOf c.nodes) with
    | false =>
      have HOk : Hid (okC xs = none) := by show _ = _; unfold okC; rw [HM.out]; show (if _ then _ else _) = _; rw [if_neg]; intro h9; have := h9.2; dsimp only at this; rw [hM] at this; cases this
      clear hM
      go_wp2_with fail
      refine (HNn.out w3).mono ?_
      rintro e9 w9 ⟨rfl, hw9⟩
      have hw8 := hw9.symm
      subst hw8
      exact HPan.out _ _ rfl HOk.out HK3.out
    | true =>
      have HOk : Hid (okC xs = some c) := by show _ = _; unfold okC; rw [HM.out]; show (if _ then _ else _) = _; rw [if_pos]; exact ⟨rfl, hM⟩
      clear hM
      go_wp2_with fail
      refine (HNy.out w3).mono ?_
      rintro e9 w9 ⟨⟨v9, rfl⟩, hw9⟩
      have hw8 := hw9.symm
      subst hw8
      clear hw9
      go_wp2_with (first
        | (refine wpList_load_all rfl 31 _ rfl 12 g xa.toList rfl HL3.out ⟨dC, hdC, hdR⟩ szCmd HXl.out ?_)
        | (refine wpList_store_all rfl 31 _ _ rfl 12 h2 zeroC.toList xa.toList rfl rfl HLh3.out szCmd rfl HXl.out HX1.out ?_; intro w4 hl4 k4))
      refine bodyPost_ret (res_cell Tryz.results107 _ _ h2 _ rfl (hl4.load ⟨dC, hdC, hdR⟩ szCmd HXl.out)) rfl ?_
      refine ⟨?_, HK3.out.trans k4 (fun b hb e => by have := HO.out; omega)⟩
      unfold R1Res
      rw [HOk.out]
      refine ⟨q, cap, by rw [Array.toArray_toList, HXa.out], (HF3.out.keep k4 (fun b hb e => by have := HO.out; omega)).mono (fun b hb => ⟨by have := HO.out; omega, by have := HZ3.out; have := k4.size; omega⟩)⟩
end Go.Proofs.YtippipeebkkghaaGreatDoor
