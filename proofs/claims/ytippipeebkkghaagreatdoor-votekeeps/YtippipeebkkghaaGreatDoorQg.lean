/- Lists in memory, flat; copies of commands. -/
import Derived.Test.YtippipeebkkghaaGreatDoorQs
import Derived.Test.YtippipeebkkghaaGreatDoorQm
namespace Go.Proofs.YtippipeebkkghaaGreatDoor
set_option linter.unusedVariables false
open Go.RowKit Go.Deep Go.Maps

/-- the cells of a slice's elements, one behind the other, in blocks of which Z holds -/
def Fl (w : World) (Z : Nat → Prop) (p : Option Addr) (cells : List Value) : Prop := ∀ j u, cells[j]? = some u → ∃ b o, p = some ⟨b, o, none⟩ ∧ Z b ∧ w.cell? ⟨b, o + j, none⟩ = some u
theorem Fl.keep {S Z : Nat → Prop} {w w' : World} {p : Option Addr} {cells : List Value} (h : Fl w Z p cells) (k : Kp S w w') (hS : ∀ b, Z b → ¬ S b) : Fl w' Z p cells := fun j u hu => by
  obtain ⟨b, o, e, hz, hc⟩ := h j u hu
  exact ⟨b, o, e, hz, k.cellv hc (hS b hz)⟩
theorem Fl.mono {Z Z' : Nat → Prop} {w : World} {p : Option Addr} {cells : List Value} (h : Fl w Z p cells) (hz : ∀ b, Z b → Z' b) : Fl w Z' p cells := fun j u hu => by
  obtain ⟨b, o, e, hz', hc⟩ := h j u hu
  exact ⟨b, o, e, hz b hz', hc⟩
theorem Fl.src {Z : Nat → Prop} {w : World} {p : Option Addr} {cells : List Value} (h : Fl w Z p cells) {sz n c : Nat} {tx e' : TypeId} (hk : Tryz.prog.underlying tx = some (.slice e')) (hs : 0 < sz) (hl : cells.length = n * sz) (h1 : ∀ u ∈ cells, u.oneCell' = true) : Src Tryz.prog sz tx (.slice p n c) n cells w := by
  cases p with
  | none =>
    have h0 : cells = [] := by
      cases cells with
      | nil => rfl
      | cons x l => obtain ⟨b, o, e, _⟩ := h 0 x rfl; cases e
    subst h0
    have hn : n = 0 := by
      rcases Nat.eq_zero_or_pos n with h0 | h0
      · exact h0
      · have := Nat.mul_pos h0 hs; simp at hl; omega
    subst hn
    exact Src.ofNil w hk c
  | some a =>
    refine Src.ofSlice w hk a n c cells hl (fun j u hj => ?_) h1
    obtain ⟨b, o, e, _, hc⟩ := h j u hj
    cases e
    rw [Addr.add_mid]
    exact hc
theorem own_fl {w : World} {base sz n : Nat} {e : TypeId} {v : Value} {cells : List Value} (h : w.ownsRow base e sz v n cells) : ∃ q cap, v = .slice q n cap ∧ Fl w (fun b => base ≤ b ∧ b < w.heap.size) q cells := by
  rcases Joins.ownsRow_forms h with ⟨e1, e2⟩ | ⟨g, cap, e1⟩
  · have hl := h.1
    rw [e2, Nat.zero_mul] at hl
    have h0 := List.eq_nil_of_length_eq_zero hl
    exact ⟨none, 0, by rw [e1, e2], fun j u hu => by rw [h0] at hu; cases hu⟩
  · refine ⟨_, cap, e1, fun j u hu => ⟨g, 0, rfl, ownBlock_lt h (by rw [e1]; rfl), ?_⟩⟩
    have := h.cells (g := g) (by rw [e1]; rfl) j u hu
    rw [Addr.add_mid] at this
    exact this

theorem infoInt : (Tryz.prog.info? 3).map (fun i => (i.zero, i.size, i.bytes)) = some (some (.int .i64 0), 1, 8) := by kernel_rfl
abbrev encI (z : Int) : Value := .int .i64 z

/-- a command, but its nodes: the numbers and the key -/
structure Cs0 where
  (id kind : Int) (key : ByteArray) (blob other index node size sum k m : Int)
abbrev cmdA (c : Cs0) (nv : Value) : Array Value := #[.int .i64 c.id, .int .i64 c.kind, .string c.key, .int .i64 c.blob, .int .i64 c.other, .int .i64 c.index, .int .i64 c.node, .int .i64 c.size, .int .u32 c.sum, .int .i64 c.k, .int .i64 c.m, nv]
abbrev zeroC : Array Value := #[.int .i64 0, .int .i64 0, .string ⟨#[]⟩, .int .i64 0, .int .i64 0, .int .i64 0, .int .i64 0, .int .i64 0, .int .u32 0, .int .i64 0, .int .i64 0, .slice none 0 0]
theorem cmd_one (c : Cs0) {v : Value} (hv : v.oneCell' = true) : (cmdA c v).toList.toArray.all (·.oneCell') = true := all_oneCell_toArray (fun x hx => by
  simp only [List.mem_cons, List.not_mem_nil, or_false] at hx
  rcases hx with rfl | rfl | rfl | rfl | rfl | rfl | rfl | rfl | rfl | rfl | rfl | rfl <;> first | rfl | exact hv)
theorem szCmd : (Tryz.prog.info? 31).map (·.size) = some 12 := by kernel_rfl
theorem dsCmd : ∃ d, Tryz.prog.underlying 31 = some d ∧ d.isRow = true := ⟨_, Tryz.underlying31, rfl⟩

end Go.Proofs.YtippipeebkkghaaGreatDoor
