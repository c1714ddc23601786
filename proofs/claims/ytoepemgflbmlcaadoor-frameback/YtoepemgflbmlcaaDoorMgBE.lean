/- Texts of this proof, joined: Oi, Om. -/
import Derived.Test.YtoepemgflbmlcaaDoorMgBD
/- frame.ReadCmd. -/
namespace Go.Proofs.YtoepemgflbmlcaaDoor
set_option linter.unusedVariables false
set_option linter.unusedSimpArgs false
open Go.RowKit Go.Deep

theorem Rb.blk {w : World} {p : Option Addr} {n : Nat} {xs : List Nat} (h : Rb w p n xs) (a : Addr) (ha : p = some a) (hn : 0 < n) : a.block < w.heap.size := by
  obtain ⟨b, o, e, hc⟩ := h.pt hn
  rw [ha] at e
  injection e with e
  subst e
  exact World.block_lt_of_cell? _ _ (hc 0 hn)

set_option maxRecDepth 100000 in
set_option maxHeartbeats 3200000 in
theorem readcmd_ok (p : Option Addr) (n cap : Nat) (xs : List Nat) (w : World) (h : Rb w p n xs) (hnc : n ≤ cap) (hcap : (cap : Int) ≤ 9223372036854775807) : Calls Tryd.prog 9 #[.slice p n cap] w fun e w' => AtRes xs w e w' ∧ Kp (fun _ => False) w w' := by
  obtain ⟨h2, hh2⟩ : ∃ x, x = w.heap.size := ⟨_, rfl⟩
  obtain ⟨r, hr⟩ : ∃ x, x = w.heap.size + 1 := ⟨_, rfl⟩
  have HKa : Hid (∀ u, u = (w.alloc (.cells zeroC 27)).alloc (.cells #[.slice p n cap] 59) → Kp (fun _ => False) w u ∧ Lv u h2 zeroC.toList ∧ Cu (fun b => b < w.heap.size) u r xs ∧ u.heap.size = w.heap.size + 2) := fun u hu => by
    have z1 : (w.alloc (.cells zeroC 27)).heap.size = w.heap.size + 1 := by simp
    have k0 : Kp (fun _ => False) w u := by rw [hu]; exact ((Kp.refl _ _).alloc _).alloc _
    have hl : Lv u r [.slice p n cap] := by rw [hu, hr, ← z1]; exact Lv.new _ _ _
    exact ⟨k0, by rw [hu, hh2]; exact (Lv.new w _ _).keep ((Kp.refl (fun _ => False) _).alloc _) id, ⟨p, n, cap, hl.cell (j := 0) rfl, hl.fz (show 0 < 1 by omega), hnc, hcap, h.keep0 k0, fun a ha hp => by have := h.blk a ha hp; exact ⟨by omega, this⟩⟩, by rw [hu]; simp⟩
  have HB : Hid (∀ x ∈ xs, x < 256) := h.byte
  have hmf : ∀ (fn : Fn) (first cap : Array Value) (w : World), (Instr.makeFunc fn first cap).run Tryd.prog w = .ok (.func fn first cap) w := fun _ _ _ _ => rfl
  have HO : Hid (h2 = w.heap.size ∧ r = w.heap.size + 1) := ⟨hh2, hr⟩
  clear h hnc hcap
  go_enter Tryd.func9, Tryd.ntmps9
  go_wp2_with fail
  obtain ⟨u, hu⟩ : ∃ x, x = (w.alloc (.cells zeroC 27)).alloc (.cells #[.slice p n cap] 59) := ⟨_, rfl⟩
  obtain ⟨k0, l0, c0, z0⟩ := HKa.out u hu
  rw [show (w.alloc (.cells #[.int .i64 0, .int .i64 0, .string ⟨#[]⟩, .int .i64 0, .int .i64 0, .int .i64 0, .int .i64 0, .int .i64 0, .int .u32 0, .int .i64 0, .int .i64 0, .slice none 0 0] 27)).alloc (.cells #[.slice p n cap] 59) = u from hu.symm, ← hr, ← hh2]
  clear hu hr hh2 HKa
  have HL0 : Hid (Lv u h2 zeroC.toList) := l0
  have HK0 : Hid (Kp (fun _ => False) w u) := k0
  have HU : Hid (u.heap.size = w.heap.size + 2) := z0
  have HA : Hid (Calls _ _ _ u _) := attempt_ok r xs u c0 HB.out (fun b hb => by have := HU.out; omega)
  clear k0 l0 c0 z0
  refine HA.out.mono ?_
  rintro e9 w1 ⟨hq, k1⟩
  have HK1 : Hid (Kp (fun _ => False) w w1) := HK0.out.trans k1 (fun b hb e => by have := HO.out; omega)
  have HL1 : Hid (Lv w1 h2 zeroC.toList) := HL0.out.keep k1 (fun e => by have := HO.out; omega)
  clear k1 HA
  unfold AtRes at hq
  have HR : Hid (∃ (xa : Array Value) (x : Int), e9 = .returned (.tuple #[.agg xa, .int .i64 x]) ∧ xa.toList.length = 12 ∧ xa.toList.toArray.all (·.oneCell') = true ∧ ∀ w2, Kp (fun b => b = h2) w1 w2 → AtRes xs w (.returned (.tuple #[.agg xa, .int .i64 x])) w2) := by
    cases hm : okC xs with
    | none =>
      rw [hm] at hq
      exact ⟨zeroC, 51, hq, rfl, cmd_one ⟨0, 0, ⟨#[]⟩, 0, 0, 0, 0, 0, 0, 0, 0⟩ (v := .slice none 0 0) rfl, fun w2 k => by unfold AtRes; rw [hm]⟩
    | some c =>
      rw [hm] at hq
      obtain ⟨q, cq, he, hfl⟩ := hq
      refine ⟨_, 0, he, rfl, cmd_one _ rfl, fun w2 k => ?_⟩
      unfold AtRes
      rw [hm]
      refine ⟨q, cq, rfl, (hfl.keep k (fun b hb e => by have := HO.out; have := HU.out; omega)).mono (fun b hb => ⟨by have := HU.out; omega, Nat.lt_of_lt_of_le hb.2 k.size⟩)⟩
  obtain ⟨xa, x, he, hl, h1, hA⟩ := HR.out
  subst he
  have HXl : Hid (xa.toList.length = 12) := hl
  have HX1 : Hid (xa.toList.toArray.all (·.oneCell') = true) := h1
  have HA : Hid (∀ w2, Kp (fun b => b = h2) w1 w2 → AtRes xs w (.returned (.tuple #[.agg xa, .int .i64 x])) w2) := hA
  clear hq HR hl h1 hA
  go_wp2_with (refine wpList_store_all rfl 27 _ _ rfl 12 h2 zeroC.toList xa.toList rfl (by rw [Array.toArray_toList]; rfl) HL1.out szCmd rfl HXl.out HX1.out ?_; intro w2 hl2 k2)
  refine bodyPost_ret (res_cell_tmp Tryd.results9 _ _ h2 _ rfl (hl2.load dsCmd szCmd HXl.out)) rfl ?_
  refine ⟨?_, HK1.out.trans k2 (fun b hb e => by have := HO.out; omega)⟩
  have := HA.out w2 k2
  rw [Array.toArray_toList]
  exact this
end Go.Proofs.YtoepemgflbmlcaaDoor

/- The document's ReadCmd. -/
namespace Go.Proofs.YtoepemgflbmlcaaDoor
set_option linter.unusedVariables false
set_option linter.unusedSimpArgs false
open Go.RowKit Go.Deep

theorem okC_X (xs : List Nat) : okC xs = (rdX (some xs)).bind (fun p => if p.2 = [] then some p.1 else none) := by
  unfold okC rdX
  show (rdCmd xs).bind _ = ((rdCmd xs).bind _).bind _
  cases rdCmd xs with
  | none => rfl
  | some p =>
    show (if _ then _ else _) = Option.bind (if _ then _ else _) _
    by_cases h1 : mayC (csOf p.1) (intsOf p.1.nodes) = true
    · rw [if_pos h1]
      by_cases h2 : p.2 = []
      · rw [if_pos ⟨h2, h1⟩]
        show _ = if _ then _ else _
        rw [if_pos h2]
      · rw [if_neg (fun h => h2 h.1)]
        show _ = if _ then _ else _
        rw [if_neg h2]
    · rw [if_neg h1, if_neg (fun h => h1 h.2)]
      rfl

set_option maxRecDepth 100000 in
set_option maxHeartbeats 3200000 in
theorem xreadcmd_ok (p : Option Addr) (n cap : Nat) (xs : List Nat) (w : World) (h : Rb w p n xs) (hnc : n ≤ cap) (hcap : (cap : Int) ≤ 9223372036854775807) : Calls Tryd.prog 10 #[.slice p n cap] w fun e w' => AtRes xs w e w' ∧ Kp (fun _ => False) w w' := by
  obtain ⟨h2, hh2⟩ : ∃ x, x = w.heap.size := ⟨_, rfl⟩
  obtain ⟨r, hr⟩ : ∃ x, x = w.heap.size + 1 := ⟨_, rfl⟩
  have HKa : Hid (∀ u, u = (w.alloc (.cells zeroC 27)).alloc (.cells #[.slice p n cap, .bool false] 66) → Kp (fun _ => False) w u ∧ Lv u h2 zeroC.toList ∧ Ru (fun b => b < w.heap.size) u r (some xs) ∧ u.heap.size = w.heap.size + 2) := fun u hu => by
    have z1 : (w.alloc (.cells zeroC 27)).heap.size = w.heap.size + 1 := by simp
    have k0 : Kp (fun _ => False) w u := by rw [hu]; exact ((Kp.refl _ _).alloc _).alloc _
    have hl : Lv u r [.slice p n cap, .bool false] := by rw [hu, hr, ← z1]; exact Lv.new _ _ _
    exact ⟨k0, by rw [hu, hh2]; exact (Lv.new w _ _).keep ((Kp.refl (fun _ => False) _).alloc _) id, ⟨⟨p, n, cap, hl.cell (j := 0) rfl, hl.fz (show 0 < 2 by omega), hnc, hcap, fun ys e => by cases e; exact ⟨h.keep0 k0, fun a ha hp => by have := h.blk a ha hp; exact ⟨by omega, this⟩⟩⟩, hl.cell (j := 1) rfl, hl.fz (show 1 < 2 by omega)⟩, by rw [hu]; simp⟩
  have HB : Hid (Byt (some xs)) := fun ys e => by cases e; exact h.byte
  have HO : Hid (h2 = w.heap.size ∧ r = w.heap.size + 1) := ⟨hh2, hr⟩
  clear h hnc hcap
  go_enter Tryd.func10, Tryd.ntmps10
  go_wp2_with fail
  obtain ⟨u, hu⟩ : ∃ x, x = (w.alloc (.cells zeroC 27)).alloc (.cells #[.slice p n cap, .bool false] 66) := ⟨_, rfl⟩
  obtain ⟨k0, l0, c0, z0⟩ := HKa.out u hu
  rw [show (w.alloc (.cells #[.int .i64 0, .int .i64 0, .string ⟨#[]⟩, .int .i64 0, .int .i64 0, .int .i64 0, .int .i64 0, .int .i64 0, .int .u32 0, .int .i64 0, .int .i64 0, .slice none 0 0] 27)).alloc (.cells #[.slice p n cap, .bool false] 66) = u from hu.symm, ← hr, ← hh2]
  clear hu hr hh2 HKa
  have HL0 : Hid (Lv u h2 zeroC.toList) := l0
  have HK0 : Hid (Kp (fun _ => False) w u) := k0
  have HU : Hid (u.heap.size = w.heap.size + 2) := z0
  have HA : Hid (Calls _ _ _ u _) := xcmd_ok r (some xs) u c0 HB.out (fun b hb => by have := HU.out; omega)
  clear k0 l0 c0 z0
  refine HA.out.mono ?_
  rintro e9 w1 ⟨hq, k1⟩
  have HK1 : Hid (Kp (fun _ => False) w w1) := HK0.out.trans k1 (fun b hb e => by have := HO.out; omega)
  have HL1 : Hid (Lv w1 h2 zeroC.toList) := HL0.out.keep k1 (fun e => by have := HO.out; omega)
  have HZ1 : Hid (w.heap.size + 2 ≤ w1.heap.size) := by have := HU.out; have := k1.size; show _ ≤ _; omega
  clear k1 HA
  unfold XcRes at hq
  have HR : Hid (∃ (xa : Array Value) (st : Option (List Nat)), e9 = .returned (.agg xa) ∧ xa.toList.length = 12 ∧ xa.toList.toArray.all (·.oneCell') = true ∧ Ru (fun b => b < w.heap.size) w1 r st ∧ (st = none → okC xs = none) ∧ (∀ y t, st = some (y :: t) → okC xs = none) ∧ (st = some [] → ∀ w2, Kp (fun b => b = h2 ∨ w1.heap.size ≤ b) w1 w2 → AtRes xs w (.returned (.tuple #[.agg xa, .int .i64 0])) w2)) := by
    cases hm : rdX (some xs) with
    | none =>
      rw [hm] at hq
      obtain ⟨⟨cs0, q, n', cap', he⟩, hr2⟩ := hq
      refine ⟨_, none, he, rfl, cmd_one _ rfl, hr2, fun _ => ?_, fun y t e => (by cases e), fun e => (by cases e)⟩
      rw [okC_X, hm]
      rfl
    | some p =>
      obtain ⟨c, t⟩ := p
      rw [hm] at hq
      obtain ⟨q, cq, he, hfl, hr2⟩ := hq
      refine ⟨_, some t, he, rfl, cmd_one _ rfl, hr2, fun e => (by cases e), fun y t' e => ?_, fun e w2 k => ?_⟩
      · cases e
        rw [okC_X, hm]
        rfl
      · cases e
        unfold AtRes
        rw [okC_X, hm]
        refine ⟨q, cq, rfl, (hfl.keep k (fun b hb e => by have := HO.out; have := HU.out; omega)).mono (fun b hb => ⟨by have := HU.out; omega, Nat.lt_of_lt_of_le hb.2 k.size⟩)⟩
  obtain ⟨xa, st, he, hl, h1, hru, hA, hB, hC⟩ := HR.out
  subst he
  have HXl : Hid (xa.toList.length = 12) := hl
  have HX1 : Hid (xa.toList.toArray.all (·.oneCell') = true) := h1
  have HRu : Hid (Ru (fun b => b < w.heap.size) w1 r st) := hru
  have HA : Hid (st = none → okC xs = none) := hA
  have HBs : Hid (∀ y t, st = some (y :: t) → okC xs = none) := hB
  have HCs : Hid (st = some [] → ∀ w2, Kp (fun b => b = h2 ∨ w1.heap.size ≤ b) w1 w2 → AtRes xs w (.returned (.tuple #[.agg xa, .int .i64 0])) w2) := hC
  clear hq HR hl h1 hA hB hC hru
  obtain ⟨dC, hdC, hdR⟩ := dsCmd
  go_upto_region 3 with (refine wpList_store_all rfl 27 _ _ rfl 12 w1.heap.size zeroC.toList xa.toList rfl (by rw [Array.toArray_toList]; rfl) (by exact Lv.new w1 _ _) szCmd rfl HXl.out HX1.out ?_; intro w2 hl2 k2)
  have k12 : Kp (fun _ => False) w1 w2 := ((Kp.refl (fun _ => False) w1).alloc (.cells zeroC 27)).trans k2 (fun b hb e => by omega)
  obtain ⟨g, hg⟩ : ∃ x, x = w1.heap.size := ⟨_, rfl⟩
  rw [← hg] at hl2 ⊢
  have HL2 : Hid (Lv w2 g xa.toList) := hl2
  have HLh2 : Hid (Lv w2 h2 zeroC.toList) := HL1.out.keep k12 id
  have HRu2 : Hid (Ru (fun b => b < w.heap.size) w2 r st) := HRu.out.keep k12 id (fun _ _ => id)
  have HK2 : Hid (Kp (fun _ => False) w w2) := HK1.out.trans k12 (fun _ _ e => e)
  have HK12 : Hid (Kp (fun _ => False) w1 w2) := k12
  clear k2 k12 hl2 hg
  have hb2 : w2.cell? ⟨r, 1, none⟩ = some (.bool st.isNone) := HRu2.out.b
  have HZero : Hid (zeroC.toList.toArray.all (·.oneCell') = true) := cmd_one ⟨0, 0, ⟨#[]⟩, 0, 0, 0, 0, 0, 0, 0, 0⟩ (v := .slice none 0 0) rfl
  cases st with
  | none =>
    have hb3 : w2.cell? ⟨r, 1, none⟩ = some (.bool true) := hb2
    clear hb2
    have HN : Hid (okC xs = none) := HA.out rfl
    go_wp2_with (refine wpList_store_all rfl 27 _ _ rfl 12 h2 zeroC.toList zeroC.toList rfl rfl HLh2.out szCmd rfl rfl HZero.out ?_; intro w4 hl4 k4)
    refine bodyPost_ret (res_cell_tmp Tryd.results10 _ _ h2 _ rfl (hl4.load ⟨dC, hdC, hdR⟩ szCmd rfl)) rfl ?_
    refine ⟨?_, HK2.out.trans k4 (fun b hb e => by have := HO.out; omega)⟩
    unfold AtRes
    rw [HN.out]
    rfl
  | some t =>
    have hb3 : w2.cell? ⟨r, 1, none⟩ = some (.bool false) := hb2
    obtain ⟨⟨q, m, c, h1, _, _, _, h5⟩, _, _⟩ := HRu2.out
    have hm := (h5 t rfl).1.len
    clear hb2 h5
    cases t with
    | nil =>
      have hm0 : m = 0 := hm.symm
      subst hm0
      clear hm
      go_wp2_with (first
        | (refine wpList_load_all rfl 27 _ rfl 12 g xa.toList rfl HL2.out ⟨dC, hdC, hdR⟩ szCmd HXl.out ?_)
        | (refine wpList_store_all rfl 27 _ _ rfl 12 h2 zeroC.toList xa.toList rfl rfl HLh2.out szCmd rfl HXl.out HX1.out ?_; intro w4 hl4 k4))
      refine bodyPost_ret (res_cell_tmp Tryd.results10 _ _ h2 _ rfl (hl4.load ⟨dC, hdC, hdR⟩ szCmd HXl.out)) rfl ?_
      refine ⟨?_, HK2.out.trans k4 (fun b hb e => by have := HO.out; omega)⟩
      have := HCs.out (by first | rfl | trivial) w4 ((HK12.out.mono (fun _ _ e => e.elim)).trans k4 (fun b hb e => Or.inl e))
      rw [Array.toArray_toList]
      exact this
    | cons y t =>
      have hm0 : (0 : Int) < (m : Int) := by rw [List.length_cons] at hm; omega
      have HN : Hid (okC xs = none) := HBs.out y t rfl
      clear hm
      go_wp2_with (refine wpList_store_all rfl 27 _ _ rfl 12 h2 zeroC.toList zeroC.toList rfl rfl HLh2.out szCmd rfl rfl HZero.out ?_; intro w4 hl4 k4)
      refine bodyPost_ret (res_cell_tmp Tryd.results10 _ _ h2 _ rfl (hl4.load ⟨dC, hdC, hdR⟩ szCmd rfl)) rfl ?_
      refine ⟨?_, HK2.out.trans k4 (fun b hb e => by have := HO.out; omega)⟩
      unfold AtRes
      rw [HN.out]
      rfl
end Go.Proofs.YtoepemgflbmlcaaDoor
