/- Open of a plate that has a log. -/
import Derived.Test.YtippipeebkkghaaGreatDoorBj
namespace Go.Proofs.YtippipeebkkghaaGreatDoor
set_option linter.unusedVariables false
set_option linter.unusedSimpArgs false
open Go.RowKit Go.Deep

set_option maxRecDepth 100000 in
set_option maxHeartbeats 1600000 in
theorem OpenAny_ok {w : World} {bp d m n q s : Nat} {dur : List Nat} {T : Nat → Option (List Nat)} (h : Pt w bp d m n q dur T) (hq : (q : Int) ≤ 9000000000000000000) (hs : n = 2 + s) (h6 : 6 ≤ n) (htd : ¬ 0 = d ∧ ¬ 0 = m) (a b c e : Nat) (hN : newH dur T s 2 = ⟨a, b, c, e⟩) (ha : 1 ≤ a ∧ a + 1 ≤ 1152921504606846976) (hb : b + 1 ≤ 1152921504606846976) (hc : c ≤ 8192) (he : 1 ≤ e ∧ e + s < 1152921504606846976) (ht : Turns w) :
    Calls Tryz.prog 29 #[.pointer (some ⟨bp, 0, none⟩)] w fun e9 w' => ∃ g gf v, e9 = .returned (.tuple #[.pointer (some ⟨g, 0, none⟩), v, .int .i64 0]) ∧ Kp (fun x => x = d ∨ x = m) w w' ∧ w.heap.size ≤ g ∧ w.heap.size ≤ gf ∧ Rw w' w.heap.size v (recsW (nowOf dur T) s c e (s + 1) 0 []).1 ∧ OpD w' bp d m n s dur T (a + 1) (b + 1) c e (recsW (nowOf dur T) s c e (s + 1) 0 []).2 ∧ Wl w' g bp s gf ⟨((a + 1 : Nat) : Int), ((b + 1 : Nat) : Int), c, e⟩ ((e - 1 + (recsW (nowOf dur T) s c e (s + 1) 0 []).1.length : Nat) : Int) (c + (recsW (nowOf dur T) s c e (s + 1) 0 []).2) (s - (recsW (nowOf dur T) s c e (s + 1) 0 []).2) := by
  have HU : Hid (Calls _ _ _ w _) := unfit_ok h h6
  have HS : Hid (Calls _ _ _ w _) := sectors_ok h
  obtain ⟨g, hg⟩ : ∃ g, g = w.heap.size := ⟨_, rfl⟩
  obtain ⟨w0, hw0⟩ : ∃ y, y = w.alloc (.cells #[.pointer (some ⟨bp, 0, none⟩), .int .i64 (s : Int), .int .i64 0, .int .i64 0, .int .i64 0, .int .i64 0, .slice none 0 0, .int .i64 0] 137) := ⟨_, rfl⟩
  have HK0 : Hid (Kp (fun _ => False) w w0) := by rw [hw0]; exact (Kp.refl _ _).alloc _
  have HL0 : Lv w0 g (walC bp s ⟨0, 0, 0, 0⟩ (.slice none 0 0) 0) := by rw [hw0, hg]; exact Lv.new _ _ _
  have h1 := h.lt
  have h2 := h.row.lt
  have h3 := h.mp.lt
  have h4 := World.block_lt_of_cell? _ _ (ht 0 (by decide))
  have h4' : (0 : Nat) < w.heap.size := h4
  have HO : Hid (Calls Tryz.prog 60 #[.pointer (some ⟨g, 0, none⟩)] w0 _) := openAny_ok (h.keep0 HK0.out) hq ⟨hs, by omega⟩ _ _ 0 HL0 (by omega) (by omega) (by omega) ⟨by omega, htd⟩ a b c e hN ha hb hc he (fun j hj => HK0.out.cellv (ht j hj) id)
  obtain ⟨RR, hRR⟩ : ∃ R, R = recsW (nowOf dur T) s c e (s + 1) 0 [] := ⟨_, rfl⟩
  rw [← hRR] at HO ⊢
  clear hRR
  have HG : Hid (g = w.heap.size ∧ d < w.heap.size ∧ m < w.heap.size ∧ w0.heap.size = w.heap.size + 1) := ⟨hg, h2, h3, by rw [hw0]; simp⟩
  have hwn : wrap64 ((n : Int) - 2) = (s : Int) := by have := h.n2; unfold wrap64; omega
  have hnn := nil_neq
  clear h ht hq hs h6 HL0 h1 h2 h3 h4 h4' htd hN ha hb hc he
  go_enter Tryz.func29, Tryz.ntmps29
  go_wp2_with fail
  refine HU.out.mono ?_
  rintro e9 w9 ⟨rfl, hw9⟩
  have hw8 := hw9.symm
  subst hw8
  clear hw9 HU
  go_wp2_with fail
  refine HS.out.mono ?_
  rintro e9 w9 ⟨rfl, hw9⟩
  have hw8 := hw9.symm
  subst hw8
  clear hw9 HS
  go_wp2_with fail
  rw [← hw0, ← hg]
  clear hw0 hg
  refine HO.out.mono ?_
  rintro e9 w1 ⟨v, gf, rfl, k1, rw1, hgf, o1, l1⟩
  have HF : Hid (Kp (fun x => x = d ∨ x = m) w w1 ∧ w.heap.size ≤ g ∧ w.heap.size ≤ gf ∧ Rw w1 w.heap.size v RR.1 ∧ OpD w1 bp d m n s dur T (a + 1) (b + 1) c e RR.2 ∧ Wl w1 g bp s gf ⟨((a + 1 : Nat) : Int), ((b + 1 : Nat) : Int), c, e⟩ ((e - 1 + RR.1.length : Nat) : Int) (c + RR.2) (s - RR.2)) :=
    ⟨(HK0.out.mono (fun _ _ e => e.elim)).trans k1 (fun b hb e => by have := HG.out; omega), by have := HG.out; omega, by have := HG.out; omega, rw1.base HK0.out.size, o1, l1⟩
  clear k1 rw1 hgf o1 l1 HO
  go_wp2
  go_ret3
  exact ⟨g, gf, v, rfl, HF.out⟩
end Go.Proofs.YtippipeebkkghaaGreatDoor
