/- Messages in memory; copies of them. -/
import Derived.Test.YtoepemgflbmlcaaDoorQv
namespace Go.Proofs.YtoepemgflbmlcaaDoor
set_option linter.unusedVariables false
open Go.RowKit Go.Deep Go.Maps

/-- a message's numbers, and its command's -/
structure Ms0 where
  (kind src dst ballot slot blob index epoch id : Int) (ok : Bool) (c : Cs0)
abbrev msgA (m : Ms0) (nv vv bv : Value) : Array Value := #[.int .i64 m.kind, .int .i64 m.src, .int .i64 m.dst, .int .i64 m.ballot, .int .i64 m.slot, .int .i64 m.blob, .int .i64 m.index, .int .i64 m.epoch, .int .i64 m.id, .bool m.ok,
  .int .i64 m.c.id, .int .i64 m.c.kind, .string m.c.key, .int .i64 m.c.blob, .int .i64 m.c.other, .int .i64 m.c.index, .int .i64 m.c.node, .int .i64 m.c.size, .int .u32 m.c.sum, .int .i64 m.c.k, .int .i64 m.c.m, nv, vv, bv]
structure Ms where
  (s : Ms0) (nodes : List Int) (votes : List Vo) (bytes : List Nat)
/-- the value v is the message μ, with its lists in blocks of which Z holds -/
def Mr (w : World) (Z : Nat → Prop) (μ : Ms) (v : Value) : Prop :=
  ∃ (p : Option Addr) (cp : Nat) (pv : Option Addr) (cv : Nat) (l : List (Vo × Value)) (pb : Option Addr) (cb : Nat), v = .agg (msgA μ.s (.slice p μ.nodes.length cp) (.slice pv l.length cv) (.slice pb μ.bytes.length cb)) ∧
    Fl w Z p (μ.nodes.map encI) ∧ μ.nodes.length * 8 ≤ 140737488355328 ∧ l.map (·.1) = μ.votes ∧ Fl w Z pv (vflat l) ∧ Vn w Z l ∧ l.length * 136 ≤ 140737488355328 ∧ Fl w Z pb (vl μ.bytes) ∧ (∀ x ∈ μ.bytes, x < 256) ∧ μ.bytes.length ≤ 140737488355328
theorem Mr.keep {S Z : Nat → Prop} {w w' : World} {μ : Ms} {v : Value} (h : Mr w Z μ v) (k : Kp S w w') (hS : ∀ b, Z b → ¬ S b) : Mr w' Z μ v := by
  obtain ⟨p, cp, pv, cv, l, pb, cb, e, h1, h2, h3, h4, h5, h6, h7, h8, h9⟩ := h
  exact ⟨p, cp, pv, cv, l, pb, cb, e, h1.keep k hS, h2, h3, h4.keep k hS, h5.keep k hS, h6, h7.keep k hS, h8, h9⟩
theorem Mr.mono {Z Z' : Nat → Prop} {w : World} {μ : Ms} {v : Value} (h : Mr w Z μ v) (hz : ∀ b, Z b → Z' b) : Mr w Z' μ v := by
  obtain ⟨p, cp, pv, cv, l, pb, cb, e, h1, h2, h3, h4, h5, h6, h7, h8, h9⟩ := h
  exact ⟨p, cp, pv, cv, l, pb, cb, e, h1.mono hz, h2, h3, h4.mono hz, h5.mono hz, h6, h7.mono hz, h8, h9⟩
abbrev zeroM : Array Value := #[.int .i64 0, .int .i64 0, .int .i64 0, .int .i64 0, .int .i64 0, .int .i64 0, .int .i64 0, .int .i64 0, .int .i64 0, .bool false, .int .i64 0, .int .i64 0, .string ⟨#[]⟩, .int .i64 0, .int .i64 0, .int .i64 0, .int .i64 0, .int .i64 0, .int .u32 0, .int .i64 0, .int .i64 0, .slice none 0 0, .slice none 0 0, .slice none 0 0]
theorem szMsg : (Tryd.prog.info? 40).map (·.size) = some 24 := by kernel_rfl
theorem dsMsg : ∃ d, Tryd.prog.underlying 40 = some d ∧ d.isRow = true := ⟨_, Tryd.underlying40, rfl⟩
theorem msg_one (m : Ms0) {a b c : Value} (ha : a.oneCell' = true) (hb : b.oneCell' = true) (hc : c.oneCell' = true) : (msgA m a b c).toList.toArray.all (·.oneCell') = true := all_oneCell_toArray (fun x hx => by
  simp only [List.mem_cons, List.not_mem_nil, or_false] at hx
  rcases hx with rfl | rfl | rfl | rfl | rfl | rfl | rfl | rfl | rfl | rfl | rfl | rfl | rfl | rfl | rfl | rfl | rfl | rfl | rfl | rfl | rfl | rfl | rfl | rfl <;> first | rfl | assumption)
theorem fl_rb {w : World} {Z : Nat → Prop} {p : Option Addr} {xs : List Nat} (h : Fl w Z p (vl xs)) (hx : ∀ x ∈ xs, x < 256) : Rb w p xs.length xs :=
  ⟨rfl, hx, fun j hj => by
    obtain ⟨b, o, e, _, hc⟩ := h j _ (vl_get hj)
    exact ⟨b, o, e, hc⟩⟩

end Go.Proofs.YtoepemgflbmlcaaDoor
