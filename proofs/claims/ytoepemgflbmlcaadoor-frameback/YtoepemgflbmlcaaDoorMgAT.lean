/- Texts of this proof, joined: Qv, Qw. -/
import Derived.Test.YtoepemgflbmlcaaDoorMgAD
/- Votes in memory; copies of them. -/
namespace Go.Proofs.YtoepemgflbmlcaaDoor
set_option linter.unusedVariables false
open Go.RowKit Go.Deep Go.Maps

structure Vo where
  (slot ballot : Int) (c : Cs0) (nodes : List Int)
/-- a vote's cells; nv: its nodes -/
abbrev vcell (v : Vo) (nv : Value) : List Value := .int .i64 v.slot :: .int .i64 v.ballot :: (cmdA v.c nv).toList
def vflat : List (Vo × Value) → List Value
  | [] => []
  | x :: l => vcell x.1 x.2 ++ vflat l
theorem vflat_append : ∀ l m : List (Vo × Value), vflat (l ++ m) = vflat l ++ vflat m
  | [], m => rfl
  | x :: l, m => by show vcell x.1 x.2 ++ vflat (l ++ m) = vcell x.1 x.2 ++ vflat l ++ vflat m; rw [vflat_append l m, List.append_assoc]
theorem vflat_len : ∀ l : List (Vo × Value), (vflat l).length = l.length * 14
  | [] => rfl
  | x :: l => by show (vcell x.1 x.2 ++ vflat l).length = _; rw [List.length_append, vflat_len l]; simp; omega
/-- each vote's nodes lie there -/
def Vn (w : World) (Z : Nat → Prop) (l : List (Vo × Value)) : Prop := ∀ x ∈ l, ∃ p cap, x.2 = .slice p x.1.nodes.length cap ∧ Fl w Z p (x.1.nodes.map encI) ∧ x.1.nodes.length * 8 ≤ 140737488355328
theorem Vn.keep {S Z : Nat → Prop} {w w' : World} {l : List (Vo × Value)} (h : Vn w Z l) (k : Kp S w w') (hS : ∀ b, Z b → ¬ S b) : Vn w' Z l := fun x hx => by
  obtain ⟨p, cap, e, hf, hn⟩ := h x hx
  exact ⟨p, cap, e, hf.keep k hS, hn⟩
theorem Vn.mono {Z Z' : Nat → Prop} {w : World} {l : List (Vo × Value)} (h : Vn w Z l) (hz : ∀ b, Z b → Z' b) : Vn w Z' l := fun x hx => by
  obtain ⟨p, cap, e, hf, hn⟩ := h x hx
  exact ⟨p, cap, e, hf.mono hz, hn⟩
theorem vflat_one {w : World} {Z : Nat → Prop} : ∀ {l : List (Vo × Value)}, Vn w Z l → ∀ u ∈ vflat l, u.oneCell' = true
  | [], _, u, hu => by cases hu
  | x :: l, h, u, hu => by
    rcases List.mem_append.1 hu with hu | hu
    · rcases List.mem_cons.1 hu with rfl | hu
      · rfl
      · rcases List.mem_cons.1 hu with rfl | hu
        · rfl
        · obtain ⟨p, cap, e, _⟩ := h x (List.mem_cons_self)
          have h1 := cmd_one x.1.c (v := x.2) (by rw [e]; rfl)
          exact (Array.all_eq_true_iff_forall_mem.1 h1) u (by simpa using hu)
    · exact vflat_one (fun y hy => h y (List.mem_cons_of_mem _ hy)) u hu

theorem infoVote0 : (Tryd.prog.info? 72).map (fun i => (i.zero.map (·.cells.size), i.size, i.bytes)) = some (some 14, 14, 136) := by kernel_rfl
theorem infoVote : ∃ i z, Tryd.prog.info? 72 = some i ∧ i.zero = some z ∧ i.size = 14 ∧ i.bytes = 136 ∧ z.cells.size = 14 := by
  obtain ⟨i, hi, he⟩ := Option.map_eq_some_iff.1 infoVote0
  simp only [Prod.mk.injEq] at he
  obtain ⟨h1, h2, h3⟩ := he
  obtain ⟨z, hz, h4⟩ := Option.map_eq_some_iff.1 h1
  exact ⟨i, z, hi, hz, h2, h3, h4⟩

theorem vflat_at (dn rs : List (Vo × Value)) (v : Vo) (nv : Value) : ((vflat (dn ++ (v, nv) :: rs)).drop (dn.length * 14 + 2)).take 12 = (cmdA v.c nv).toList := by
  rw [vflat_append, List.drop_append, vflat_len, List.drop_of_length_le (by rw [vflat_len]; omega), List.nil_append, show dn.length * 14 + 2 - dn.length * 14 = 2 by omega]
  show ((vcell v nv ++ vflat rs).drop 2).take 12 = _
  rfl
theorem vflat_set (dn rs : List (Vo × Value)) (v : Vo) (nv nv' : Value) : (vflat (dn ++ (v, nv) :: rs)).take (dn.length * 14 + 2) ++ (cmdA v.c nv').toList ++ (vflat (dn ++ (v, nv) :: rs)).drop (dn.length * 14 + 2 + 12) = vflat ((dn ++ [(v, nv')]) ++ rs) := by
  rw [vflat_append, vflat_append, vflat_append, List.take_append, List.drop_append, vflat_len, List.take_of_length_le (by rw [vflat_len]; omega), List.drop_of_length_le (by rw [vflat_len]; omega), show dn.length * 14 + 2 - dn.length * 14 = 2 by omega, show dn.length * 14 + 2 + 12 - dn.length * 14 = 14 by omega]
  show vflat dn ++ (vcell v nv ++ vflat rs).take 2 ++ _ ++ ([] ++ (vcell v nv ++ vflat rs).drop 14) = vflat dn ++ (vcell v nv' ++ []) ++ vflat rs
  simp
theorem wrapV (k n : Nat) (hk : k ≤ n) (h : n * 136 ≤ 140737488355328) : wrap64 ((k : Int) + 1) = ((k + 1 : Nat) : Int) := by unfold wrap64; omega
theorem own_lv {w : World} {base sz n g c : Nat} {e : TypeId} {cells : List Value} (h : w.ownsRow base e sz (.slice (some ⟨g, 0, none⟩) n c) n cells) : Lv w g cells := by
  have hc := h.cells (g := g) rfl
  refine ⟨fun j u hu => ?_, fun j hj => ⟨?_, ?_⟩⟩
  · have := hc j u hu
    rwa [Addr.add_mid] at this
  · have := hc j _ (List.getElem?_eq_getElem hj)
    rw [Addr.add_mid] at this
    rw [this]; rfl
  · obtain ⟨_, h2⟩ := h
    rcases h2 with ⟨e1, _⟩ | ⟨g', cap', cur, e1, _, hh, _⟩
    · cases e1
    · cases e1
      exact frozen_of_row _ _ _ cur _ hh

end Go.Proofs.YtoepemgflbmlcaaDoor

/- Messages in memory; copies of them. -/
namespace Go.Proofs.YtoepemgflbmlcaaDoor
set_option linter.unusedVariables false
open Go.RowKit Go.Deep Go.Maps

/-- a message's numbers, and its command's -/
structure Ms0 where
  (kind src dst ballot slot blob index epoch id : Int) (ok : Bool) (c : Cs0)
abbrev msgA (m : Ms0) (nv vv bv : Value) : Array Value := #[.int .i64 m.kind, .int .i64 m.src, .int .i64 m.dst, .int .i64 m.ballot, .int .i64 m.slot, .int .i64 m.blob, .int .i64 m.index, .int .i64 m.epoch, .int .i64 m.id, .bool m.ok,
  .int .i64 m.c.id, .int .i64 m.c.kind, .string m.c.key, .int .i64 m.c.blob, .int .i64 m.c.other, .int .i64 m.c.index, .int .i64 m.c.node, .int .i64 m.c.size, .int .u32 m.c.sum, .int .i64 m.c.k, .int .i64 m.c.m, nv, vv, bv]
structure Ms where
  (s : Ms0) (nodes : List Int) (votes : List Vo) (bytes : List Nat)
/-- the value v is the message μ, with its lists in blocks of which Z holds -/
def Mr (w : World) (Z : Nat → Prop) (μ : Ms) (v : Value) : Prop :=
  ∃ (p : Option Addr) (cp : Nat) (pv : Option Addr) (cv : Nat) (l : List (Vo × Value)) (pb : Option Addr) (cb : Nat), v = .agg (msgA μ.s (.slice p μ.nodes.length cp) (.slice pv l.length cv) (.slice pb μ.bytes.length cb)) ∧
    Fl w Z p (μ.nodes.map encI) ∧ μ.nodes.length * 8 ≤ 140737488355328 ∧ l.map (·.1) = μ.votes ∧ Fl w Z pv (vflat l) ∧ Vn w Z l ∧ l.length * 136 ≤ 140737488355328 ∧ Fl w Z pb (vl μ.bytes) ∧ (∀ x ∈ μ.bytes, x < 256) ∧ μ.bytes.length ≤ 140737488355328
theorem Mr.keep {S Z : Nat → Prop} {w w' : World} {μ : Ms} {v : Value} (h : Mr w Z μ v) (k : Kp S w w') (hS : ∀ b, Z b → ¬ S b) : Mr w' Z μ v := by
  obtain ⟨p, cp, pv, cv, l, pb, cb, e, h1, h2, h3, h4, h5, h6, h7, h8, h9⟩ := h
  exact ⟨p, cp, pv, cv, l, pb, cb, e, h1.keep k hS, h2, h3, h4.keep k hS, h5.keep k hS, h6, h7.keep k hS, h8, h9⟩
theorem Mr.mono {Z Z' : Nat → Prop} {w : World} {μ : Ms} {v : Value} (h : Mr w Z μ v) (hz : ∀ b, Z b → Z' b) : Mr w Z' μ v := by
  obtain ⟨p, cp, pv, cv, l, pb, cb, e, h1, h2, h3, h4, h5, h6, h7, h8, h9⟩ := h
  exact ⟨p, cp, pv, cv, l, pb, cb, e, h1.mono hz, h2, h3, h4.mono hz, h5.mono hz, h6, h7.mono hz, h8, h9⟩
abbrev zeroM : Array Value := #[.int .i64 0, .int .i64 0, .int .i64 0, .int .i64 0, .int .i64 0, .int .i64 0, .int .i64 0, .int .i64 0, .int .i64 0, .bool false, .int .i64 0, .int .i64 0, .string ⟨#[]⟩, .int .i64 0, .int .i64 0, .int .i64 0, .int .i64 0, .int .i64 0, .int .u32 0, .int .i64 0, .int .i64 0, .slice none 0 0, .slice none 0 0, .slice none 0 0]
theorem szMsg : (Tryd.prog.info? 40).map (·.size) = some 24 := by kernel_rfl
theorem dsMsg : ∃ d, Tryd.prog.underlying 40 = some d ∧ d.isRow = true := ⟨_, Tryd.underlying40, rfl⟩
theorem msg_one (m : Ms0) {a b c : Value} (ha : a.oneCell' = true) (hb : b.oneCell' = true) (hc : c.oneCell' = true) : (msgA m a b c).toList.toArray.all (·.oneCell') = true := all_oneCell_toArray (fun x hx => by
  simp only [List.mem_cons, List.not_mem_nil, or_false] at hx
  rcases hx with rfl | rfl | rfl | rfl | rfl | rfl | rfl | rfl | rfl | rfl | rfl | rfl | rfl | rfl | rfl | rfl | rfl | rfl | rfl | rfl | rfl | rfl | rfl | rfl <;> first | rfl | assumption)
theorem fl_rb {w : World} {Z : Nat → Prop} {p : Option Addr} {xs : List Nat} (h : Fl w Z p (vl xs)) (hx : ∀ x ∈ xs, x < 256) : Rb w p xs.length xs :=
  ⟨rfl, hx, fun j hj => by
    obtain ⟨b, o, e, _, hc⟩ := h j _ (vl_get hj)
    exact ⟨b, o, e, hc⟩⟩

end Go.Proofs.YtoepemgflbmlcaaDoor
