/- Votes in memory; copies of them. -/
import Derived.Test.YtippipeebkkghaaGreatDoorQg
namespace Go.Proofs.YtippipeebkkghaaGreatDoor
set_option linter.unusedVariables false
open Go.RowKit Go.Deep Go.Maps

structure Vo where
  (slot ballot : Int) (c : Cs0) (nodes : List Int)
/-- a vote's cells; nv: its nodes -/
abbrev vcell (v : Vo) (nv : Value) : List Value := .int .i64 v.slot :: .int .i64 v.ballot :: (cmdA v.c nv).toList
def vflat : List (Vo × Value) → List Value
  | [] => []
  | x :: l => vcell x.1 x.2 ++ vflat l
theorem vflat_append : ∀ l m : List (Vo × Value), vflat (l ++ m) = vflat l ++ vflat m
  | [], m => rfl
  | x :: l, m => by show vcell x.1 x.2 ++ vflat (l ++ m) = vcell x.1 x.2 ++ vflat l ++ vflat m; rw [vflat_append l m, List.append_assoc]
theorem vflat_len : ∀ l : List (Vo × Value), (vflat l).length = l.length * 14
  | [] => rfl
  | x :: l => by show (vcell x.1 x.2 ++ vflat l).length = _; rw [List.length_append, vflat_len l]; simp; omega
/-- each vote's nodes lie there -/
def Vn (w : World) (Z : Nat → Prop) (l : List (Vo × Value)) : Prop := ∀ x ∈ l, ∃ p cap, x.2 = .slice p x.1.nodes.length cap ∧ Fl w Z p (x.1.nodes.map encI) ∧ x.1.nodes.length * 8 ≤ 140737488355328
theorem Vn.keep {S Z : Nat → Prop} {w w' : World} {l : List (Vo × Value)} (h : Vn w Z l) (k : Kp S w w') (hS : ∀ b, Z b → ¬ S b) : Vn w' Z l := fun x hx => by
  obtain ⟨p, cap, e, hf, hn⟩ := h x hx
  exact ⟨p, cap, e, hf.keep k hS, hn⟩
theorem Vn.mono {Z Z' : Nat → Prop} {w : World} {l : List (Vo × Value)} (h : Vn w Z l) (hz : ∀ b, Z b → Z' b) : Vn w Z' l := fun x hx => by
  obtain ⟨p, cap, e, hf, hn⟩ := h x hx
  exact ⟨p, cap, e, hf.mono hz, hn⟩
theorem vflat_one {w : World} {Z : Nat → Prop} : ∀ {l : List (Vo × Value)}, Vn w Z l → ∀ u ∈ vflat l, u.oneCell' = true
  | [], _, u, hu => by cases hu
  | x :: l, h, u, hu => by
    rcases List.mem_append.1 hu with hu | hu
    · rcases List.mem_cons.1 hu with rfl | hu
      · rfl
      · rcases List.mem_cons.1 hu with rfl | hu
        · rfl
        · obtain ⟨p, cap, e, _⟩ := h x (List.mem_cons_self)
          have h1 := cmd_one x.1.c (v := x.2) (by rw [e]; rfl)
          exact (Array.all_eq_true_iff_forall_mem.1 h1) u (by simpa using hu)
    · exact vflat_one (fun y hy => h y (List.mem_cons_of_mem _ hy)) u hu

theorem infoVote0 : (Tryz.prog.info? 59).map (fun i => (i.zero.map (·.cells.size), i.size, i.bytes)) = some (some 14, 14, 136) := by kernel_rfl
theorem infoVote : ∃ i z, Tryz.prog.info? 59 = some i ∧ i.zero = some z ∧ i.size = 14 ∧ i.bytes = 136 ∧ z.cells.size = 14 := by
  obtain ⟨i, hi, he⟩ := Option.map_eq_some_iff.1 infoVote0
  simp only [Prod.mk.injEq] at he
  obtain ⟨h1, h2, h3⟩ := he
  obtain ⟨z, hz, h4⟩ := Option.map_eq_some_iff.1 h1
  exact ⟨i, z, hi, hz, h2, h3, h4⟩

theorem vflat_at (dn rs : List (Vo × Value)) (v : Vo) (nv : Value) : ((vflat (dn ++ (v, nv) :: rs)).drop (dn.length * 14 + 2)).take 12 = (cmdA v.c nv).toList := by
  rw [vflat_append, List.drop_append, vflat_len, List.drop_of_length_le (by rw [vflat_len]; omega), List.nil_append, show dn.length * 14 + 2 - dn.length * 14 = 2 by omega]
  show ((vcell v nv ++ vflat rs).drop 2).take 12 = _
  rfl
theorem vflat_set (dn rs : List (Vo × Value)) (v : Vo) (nv nv' : Value) : (vflat (dn ++ (v, nv) :: rs)).take (dn.length * 14 + 2) ++ (cmdA v.c nv').toList ++ (vflat (dn ++ (v, nv) :: rs)).drop (dn.length * 14 + 2 + 12) = vflat ((dn ++ [(v, nv')]) ++ rs) := by
  rw [vflat_append, vflat_append, vflat_append, List.take_append, List.drop_append, vflat_len, List.take_of_length_le (by rw [vflat_len]; omega), List.drop_of_length_le (by rw [vflat_len]; omega), show dn.length * 14 + 2 - dn.length * 14 = 2 by omega, show dn.length * 14 + 2 + 12 - dn.length * 14 = 14 by omega]
  show vflat dn ++ (vcell v nv ++ vflat rs).take 2 ++ _ ++ ([] ++ (vcell v nv ++ vflat rs).drop 14) = vflat dn ++ (vcell v nv' ++ []) ++ vflat rs
  simp
theorem wrapV (k n : Nat) (hk : k ≤ n) (h : n * 136 ≤ 140737488355328) : wrap64 ((k : Int) + 1) = ((k + 1 : Nat) : Int) := by unfold wrap64; omega
theorem own_lv {w : World} {base sz n g c : Nat} {e : TypeId} {cells : List Value} (h : w.ownsRow base e sz (.slice (some ⟨g, 0, none⟩) n c) n cells) : Lv w g cells := by
  have hc := h.cells (g := g) rfl
  refine ⟨fun j u hu => ?_, fun j hj => ⟨?_, ?_⟩⟩
  · have := hc j u hu
    rwa [Addr.add_mid] at this
  · have := hc j _ (List.getElem?_eq_getElem hj)
    rw [Addr.add_mid] at this
    rw [this]; rfl
  · obtain ⟨_, h2⟩ := h
    rcases h2 with ⟨e1, _⟩ | ⟨g', cap', cur, e1, _, hh, _⟩
    · cases e1
    · cases e1
      exact frozen_of_row _ _ _ cur _ hh

end Go.Proofs.YtippipeebkkghaaGreatDoor
