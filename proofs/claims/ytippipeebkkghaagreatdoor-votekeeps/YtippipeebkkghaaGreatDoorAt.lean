/- Open of a new plate. -/
import Derived.Test.YtippipeebkkghaaGreatDoorAs
namespace Go.Proofs.YtippipeebkkghaaGreatDoor
set_option linter.unusedVariables false
set_option linter.unusedSimpArgs false
open Go.RowKit Go.Deep

/-- the log at block g, whose free places e, e + 1 .. (k of them) stand at block gf -/
structure Wl (w : World) (g bp s gf : Nat) (A : H4) (last : Int) (e k : Nat) : Prop where
  hp : ∃ cap l, Lv w g (walC bp s A (.slice (some ⟨gf, 0, none⟩) k cap) last) ∧ w.ownsRow 0 3 1 (.slice (some ⟨gf, 0, none⟩) k cap) k (nls l) ∧ Free l e k
  ne : gf ≠ g
theorem Wl.keep {S : Nat → Prop} {w w' : World} {g bp s gf : Nat} {A : H4} {last : Int} {e k : Nat} (h : Wl w g bp s gf A last e k) (kp : Kp S w w') (hg : ¬ S g) (hf : ¬ S gf) : Wl w' g bp s gf A last e k := by
  obtain ⟨cap, l, h1, h2, h3⟩ := h.hp
  exact ⟨⟨cap, l, h1.keep kp hg, ownsRow_keep h2 kp (fun g' e' => by have e2 : some gf = some g' := e'; injection e2 with e2; subst e2; exact hf), h3⟩, h.ne⟩
theorem Wl.gl {w : World} {g bp s gf : Nat} {A : H4} {last : Int} {e k : Nat} (h : Wl w g bp s gf A last e k) : g < w.heap.size := by
  obtain ⟨cap, l, h1, h2, h3⟩ := h.hp
  exact h1.lt (by simp)
theorem Wl.fl {w : World} {g bp s gf : Nat} {A : H4} {last : Int} {e k : Nat} (h : Wl w g bp s gf A last e k) : gf < w.heap.size := by
  obtain ⟨cap, l, h1, h2, h3⟩ := h.hp
  exact (ownBlock_lt h2 (g := gf) rfl).2

set_option maxRecDepth 100000 in
set_option maxHeartbeats 1600000 in
theorem OpenNew_ok {w : World} {bp d m n q s : Nat} {dur : List Nat} {T : Nat → Option (List Nat)} (h : Pt w bp d m n q dur T) (hq : (q : Int) < 9223372036854775807) (hs : n = 2 + s) (h6 : 6 ≤ n) (hall : ∀ i, i < n → nowOf dur T i = nouW 64) (ht : Turns w) :
    Calls Tryz.prog 29 #[.pointer (some ⟨bp, 0, none⟩)] w fun e9 w' => ∃ g gf, e9 = .returned (.tuple #[.pointer (some ⟨g, 0, none⟩), .slice none 0 0, .int .i64 0]) ∧ Kp (fun x => x = d ∨ x = m) w w' ∧ Pt w' bp d m n 0 (wrHead dur T n 1 (hdB 1 1 0 1)) (fun _ => none) ∧ w.heap.size ≤ g ∧ w.heap.size ≤ gf ∧ Wl w' g bp s gf ⟨1, 1, 0, 1⟩ 0 0 s := by
  have HU : Hid (Calls _ _ _ w _) := unfit_ok h h6
  have HS : Hid (Calls _ _ _ w _) := sectors_ok h
  obtain ⟨g, hg⟩ : ∃ g, g = w.heap.size := ⟨_, rfl⟩
  obtain ⟨w0, hw0⟩ : ∃ y, y = w.alloc (.cells #[.pointer (some ⟨bp, 0, none⟩), .int .i64 (s : Int), .int .i64 0, .int .i64 0, .int .i64 0, .int .i64 0, .slice none 0 0, .int .i64 0] 137) := ⟨_, rfl⟩
  have HK0 : Hid (Kp (fun _ => False) w w0) := by rw [hw0]; exact (Kp.refl _ _).alloc _
  have HL0 : Lv w0 g (walC bp s ⟨0, 0, 0, 0⟩ (.slice none 0 0) 0) := by rw [hw0, hg]; exact Lv.new _ _ _
  have h1 := h.lt
  have h2 := h.row.lt
  have h3 := h.mp.lt
  have h4 := World.block_lt_of_cell? _ _ (ht 0 (by decide))
  have h4' : (0 : Nat) < w.heap.size := h4
  have HO : Hid (Calls Tryz.prog 60 #[.pointer (some ⟨g, 0, none⟩)] w0 _) := openNew_ok (h.keep0 HK0.out) hq hs hall _ _ 0 HL0 (by omega) (by omega) (by omega) (by omega) (fun j hj => HK0.out.cellv (ht j hj) id)
  have HG : Hid (g = w.heap.size ∧ d < w.heap.size ∧ m < w.heap.size ∧ w0.heap.size = w.heap.size + 1) := ⟨hg, h2, h3, by rw [hw0]; simp⟩
  have hwn : wrap64 ((n : Int) - 2) = (s : Int) := by have := h.n2; unfold wrap64; omega
  have hnn := nil_neq
  clear h ht hall hq hs h6 HL0 h1 h2 h3 h4 h4'
  go_enter Tryz.func29, Tryz.ntmps29
  go_wp2_with fail
  refine HU.out.mono ?_
  rintro e9 w9 ⟨rfl, hw9⟩
  have hw8 := hw9.symm
  subst hw8
  clear hw9 HU
  go_wp2_with fail
  refine HS.out.mono ?_
  rintro e9 w9 ⟨rfl, hw9⟩
  have hw8 := hw9.symm
  subst hw8
  clear hw9 HS
  go_wp2_with fail
  rw [← hw0, ← hg]
  clear hw0 hg
  refine HO.out.mono ?_
  rintro e9 w1 ⟨rfl, k1, p1, gf, cap, l, hgf, l1, o1, f1⟩
  have HF : Hid (Kp (fun x => x = d ∨ x = m) w w1 ∧ Pt w1 bp d m n 0 (wrHead dur T n 1 (hdB 1 1 0 1)) (fun _ => none) ∧ w.heap.size ≤ g ∧ w.heap.size ≤ gf ∧ Wl w1 g bp s gf ⟨1, 1, 0, 1⟩ 0 0 s) :=
    ⟨(HK0.out.mono (fun _ _ e => e.elim)).trans k1 (fun b hb e => by have := HG.out; omega), p1, by have := HG.out; omega, by have := HG.out; omega, ⟨⟨cap, l, l1, o1, f1⟩, by have := HG.out; omega⟩⟩
  clear k1 p1 hgf l1 o1 f1 HO
  go_wp2
  go_ret3
  exact ⟨g, gf, rfl, HF.out⟩
end Go.Proofs.YtippipeebkkghaaGreatDoor
