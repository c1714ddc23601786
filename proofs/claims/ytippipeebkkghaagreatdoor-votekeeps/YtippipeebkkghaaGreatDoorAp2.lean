/- So many places from one on. -/
import Derived.Test.YtippipeebkkghaaGreatDoorAg
import Derived.Deep.LoopGhost
namespace Go.Proofs.YtippipeebkkghaaGreatDoor
set_option linter.unusedVariables false
set_option linter.unusedSimpArgs false
open Go.RowKit Go.Deep

theorem infoP3 : (Tryz.prog.info? 3).map (fun i => (i.zero, i.size, i.bytes)) = some (some (.int .i64 0), 1, 8) := by kernel_rfl
set_option maxRecDepth 100000 in
theorem make_places (n : Nat) (hn : n ≤ 1000000) (w : World) : (Instr.makeSlice 135 (.int .i64 0) (.int .i64 (n : Int))).run Tryz.prog w = .ok (.slice (some ⟨w.heap.size, 0, none⟩) 0 n) (w.alloc (.cells (madeCells #[.int .i64 0] n) 3)) := by
  obtain ⟨i, hi, hz⟩ := Option.map_eq_some_iff.1 infoP3
  simp only [Prod.mk.injEq] at hz
  obtain ⟨hz, hs, hb⟩ := hz
  have hr := run_make (P := Tryz.prog) w 135 3 i (.int .i64 0) Tryz.underlying135 hi hz .i64 .i64 0 (n : Int) (by omega) (by omega) (by rw [hb]; omega) (by omega)
  rw [hr]
  simp only [hs, Int.toNat_natCast]
  congr 4
  simp
/-- a heap of the k places from e on -/
def Free (l : List Nat) (e k : Nat) : Prop := l.Perm (List.range' e k) ∧ HpdI l l.length
theorem Free.len {l : List Nat} {e k : Nat} (h : Free l e k) : l.length = k := by rw [h.1.length_eq, List.length_range']
theorem Free.nil (e : Nat) : Free [] e 0 := ⟨List.Perm.refl _, fun k _ hk => absurd hk (Nat.not_lt_zero _)⟩
theorem Free.push {l : List Nat} {e k : Nat} (h : Free l e k) : Free (pushI l (e + k)) e (k + 1) := by
  obtain ⟨h1, h2⟩ := pushI_heap h.2 (e + k)
  refine ⟨h2.trans ?_, h1⟩
  rw [List.range'_concat]
  simpa using h.1.append_right [e + k]
/-- the least one comes out, and the others stay -/
theorem Free.pop {l : List Nat} {e k : Nat} (h : Free l e (k + 1)) : l.getD 0 0 = e ∧ popIX l = e ∧ Free (popIL l) (e + 1) k := by
  have hl : l.length = k + 1 := h.len
  obtain ⟨p1, p2, p3, p4⟩ := popI_heap h.2 (by omega)
  have hm : ∀ x ∈ l, e ≤ x := fun x hx => by
    have := h.1.mem_iff.1 hx
    rw [List.mem_range'_1] at this
    exact this.1
  have he : l.getD 0 0 = e := by
    have h1 : l.getD 0 0 ∈ l := by
      rw [List.getD_eq_getElem?_getD, List.getElem?_eq_getElem (by omega : 0 < l.length)]
      exact List.getElem_mem _
    have h2 : e ∈ l := h.1.mem_iff.2 (by rw [List.mem_range'_1]; omega)
    obtain ⟨j, hj, hje⟩ := List.getElem_of_mem h2
    have h3 := h.2.top j hj
    have h4 : tmI l j = e := by unfold tmI; rw [List.getD_eq_getElem?_getD, List.getElem?_eq_getElem hj]; exact hje
    have h5 : tmI l 0 = l.getD 0 0 := rfl
    have := hm _ h1
    omega
  refine ⟨he, p1.trans he, ?_, p2⟩
  have h6 : (popIL l ++ [e]).Perm (List.range' e (k + 1)) := by
    have := p3.trans h.1
    rw [p1, he] at this
    exact this
  have h7 : (e :: popIL l).Perm (e :: List.range' (e + 1) k) := by
    refine List.Perm.trans ?_ h6
    exact (List.perm_append_singleton e (popIL l)).symm
  exact h7.cons_inv

set_option maxRecDepth 100000 in
set_option maxHeartbeats 1600000 in
theorem placesFrom_ok (e k : Nat) (w : World) (hk : (k : Int) ≤ 8192) (he : (e : Int) ≤ 1000000000000000000) :
    Calls Tryz.prog 144 #[.int .i64 (e : Int), .int .i64 (k : Int)] w fun e9 w' => ∃ g cap l, w.heap.size ≤ g ∧ e9 = .returned (.slice (some ⟨g, 0, none⟩) k cap) ∧ Kp (fun _ => False) w w' ∧ w'.ownsRow 0 3 1 (.slice (some ⟨g, 0, none⟩) k cap) k (nls l) ∧ Free l e k := by
  have hmk := make_places k (by omega)
  obtain ⟨h, hh⟩ : ∃ h, h = w.heap.size + 1 := ⟨_, rfl⟩
  obtain ⟨w0, hw0⟩ : ∃ y, y = (w.alloc (.cells (madeCells #[.int .i64 0] k) 3)).alloc (.cells #[.slice (some ⟨w.heap.size, 0, none⟩) 0 k] 135) := ⟨_, rfl⟩
  have zz : (w.alloc (.cells (madeCells #[.int .i64 0] k) 3)).heap.size = w.heap.size + 1 := by simp
  have HK0 : Hid (Kp (fun _ => False) w w0) := by rw [hw0]; exact ((Kp.refl _ _).alloc _).alloc _
  have HI0 : Hid (Ip w0 h 0 w.heap.size k [] [] []) := by
    refine ⟨?_, rfl, ?_, by omega⟩
    · rw [hw0, hh, ← zz]; exact Lv.new _ _ _
    · rw [hw0]
      exact (World.ownsRow_made w _ k (Nat.zero_le _) (by unfold maxLen; omega) (by simp [madeCells])).alloc _
  have HH : Hid (w.heap.size < h) := by show _ < _; omega
  have HN : Hid (k ≤ 8192 ∧ (e : Int) ≤ 1000000000000000000) := ⟨by omega, he⟩
  go_enter Tryz.func144, Tryz.ntmps144
  go_wp2_with fail
  rw [← hw0, ← hh]
  clear hw0 hh zz hmk
  go_loopg [10] k (fun gk iv wr => ∃ (i : Nat) (g c : Nat) (l : List Nat), i ≤ k ∧ gk = k - i ∧ iv = .int .i64 i ∧ Hid (Kp (fun _ => False) w wr) ∧ Hid (Ip wr h 0 g c [] [] l ∧ Free l e i ∧ w.heap.size ≤ g ∧ w.heap.size < h))
  case atStart => exact ⟨0, w.heap.size, k, [], Nat.zero_le _, rfl, rfl, HK0, ⟨HI0.out, Free.nil e, Nat.le_refl _, HH.out⟩⟩
  case round =>
    obtain ⟨i, g, c, l, hi, rfl, rfl, HK, HI⟩ := hrel
    by_cases hlt : i < k
    · have hlt2 : (i : Int) < (k : Int) := by omega
      obtain ⟨v, hv⟩ : ∃ v, v = e + i := ⟨_, rfl⟩
      have HP : Hid (Calls _ _ _ wr _) := heapPushI HI.out.1 v (by rw [HI.out.2.1.len]; have := HN.out; omega)
      have HV : Hid (v = e + i) := hv
      have hwi : wrap64 ((i : Int) + 1) = ((i + 1 : Nat) : Int) := by have := HN.out; unfold wrap64; omega
      clear hv
      go_wp2_with fail
      rw [show ((e : Int) + (i : Int)) = (v : Int) by have := HV.out; omega]
      refine HP.out.mono ?_
      rintro e9 w1 ⟨rfl, k1, g', c', hg', x1⟩
      have HK1 : Hid (Kp (fun _ => False) w w1) := HK.out.trans k1 (fun b hb e9 => by have := HI.out.2.2; omega)
      have HI1 : Hid (Ip w1 h 0 g' c' [] [] (pushI l v) ∧ Free (pushI l v) e (i + 1) ∧ w.heap.size ≤ g' ∧ w.heap.size < h) := ⟨x1, by rw [HV.out]; exact HI.out.2.1.push, by have := HI.out.2.2; have := HK.out.size; omega, HI.out.2.2.2⟩
      clear k1 x1 hg' HP
      go_wp2
      go_roundg (k - (i + 1))
      case rel => exact ⟨i + 1, g', c', pushI l v, by omega, rfl, by first | rw [hwi] | simp, HK1, HI1⟩
      case measure => omega
    · have hik : i = k := by omega
      subst hik
      have hlt2 : ¬ ((i : Int) < (i : Int)) := by omega
      have c0 := HI.out.1.c0
      have hln := HI.out.2.1.len
      rw [hln] at c0
      have HF : Hid (wr.ownsRow 0 3 1 (.slice (some ⟨g, 0, none⟩) i c) i (nls l)) := by
        have := HI.out.1.ow
        rw [hln] at this
        exact this
      clear hln
      go_wp2
      go_ret
      exact ⟨g, HI.out.2.2.1, c, rfl, HK.out, l, HF.out, HI.out.2.1⟩
end Go.Proofs.YtippipeebkkghaaGreatDoor
