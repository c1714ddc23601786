/- Texts of this proof, joined: Qg, Nd. -/
import Derived.Test.YtoepemgflbmlcaaDoorMgAC
import Derived.Test.YtoepemgflbmlcaaDoorMgAB
/- Lists in memory, flat; copies of commands. -/
namespace Go.Proofs.YtoepemgflbmlcaaDoor
set_option linter.unusedVariables false
open Go.RowKit Go.Deep Go.Maps

/-- the cells of a slice's elements, one behind the other, in blocks of which Z holds -/
def Fl (w : World) (Z : Nat → Prop) (p : Option Addr) (cells : List Value) : Prop := ∀ j u, cells[j]? = some u → ∃ b o, p = some ⟨b, o, none⟩ ∧ Z b ∧ w.cell? ⟨b, o + j, none⟩ = some u
theorem Fl.keep {S Z : Nat → Prop} {w w' : World} {p : Option Addr} {cells : List Value} (h : Fl w Z p cells) (k : Kp S w w') (hS : ∀ b, Z b → ¬ S b) : Fl w' Z p cells := fun j u hu => by
  obtain ⟨b, o, e, hz, hc⟩ := h j u hu
  exact ⟨b, o, e, hz, k.cellv hc (hS b hz)⟩
theorem Fl.mono {Z Z' : Nat → Prop} {w : World} {p : Option Addr} {cells : List Value} (h : Fl w Z p cells) (hz : ∀ b, Z b → Z' b) : Fl w Z' p cells := fun j u hu => by
  obtain ⟨b, o, e, hz', hc⟩ := h j u hu
  exact ⟨b, o, e, hz b hz', hc⟩
theorem Fl.src {Z : Nat → Prop} {w : World} {p : Option Addr} {cells : List Value} (h : Fl w Z p cells) {sz n c : Nat} {tx e' : TypeId} (hk : Tryd.prog.underlying tx = some (.slice e')) (hs : 0 < sz) (hl : cells.length = n * sz) (h1 : ∀ u ∈ cells, u.oneCell' = true) : Src Tryd.prog sz tx (.slice p n c) n cells w := by
  cases p with
  | none =>
    have h0 : cells = [] := by
      cases cells with
      | nil => rfl
      | cons x l => obtain ⟨b, o, e, _⟩ := h 0 x rfl; cases e
    subst h0
    have hn : n = 0 := by
      rcases Nat.eq_zero_or_pos n with h0 | h0
      · exact h0
      · have := Nat.mul_pos h0 hs; simp at hl; omega
    subst hn
    exact Src.ofNil w hk c
  | some a =>
    refine Src.ofSlice w hk a n c cells hl (fun j u hj => ?_) h1
    obtain ⟨b, o, e, _, hc⟩ := h j u hj
    cases e
    rw [Addr.add_mid]
    exact hc
theorem own_fl {w : World} {base sz n : Nat} {e : TypeId} {v : Value} {cells : List Value} (h : w.ownsRow base e sz v n cells) : ∃ q cap, v = .slice q n cap ∧ Fl w (fun b => base ≤ b ∧ b < w.heap.size) q cells := by
  rcases Joins.ownsRow_forms h with ⟨e1, e2⟩ | ⟨g, cap, e1⟩
  · have hl := h.1
    rw [e2, Nat.zero_mul] at hl
    have h0 := List.eq_nil_of_length_eq_zero hl
    exact ⟨none, 0, by rw [e1, e2], fun j u hu => by rw [h0] at hu; cases hu⟩
  · refine ⟨_, cap, e1, fun j u hu => ⟨g, 0, rfl, ownBlock_lt h (by rw [e1]; rfl), ?_⟩⟩
    have := h.cells (g := g) (by rw [e1]; rfl) j u hu
    rw [Addr.add_mid] at this
    exact this

theorem infoInt : (Tryd.prog.info? 3).map (fun i => (i.zero, i.size, i.bytes)) = some (some (.int .i64 0), 1, 8) := by kernel_rfl
abbrev encI (z : Int) : Value := .int .i64 z

/-- a command, but its nodes: the numbers and the key -/
structure Cs0 where
  (id kind : Int) (key : ByteArray) (blob other index node size sum k m : Int)
abbrev cmdA (c : Cs0) (nv : Value) : Array Value := #[.int .i64 c.id, .int .i64 c.kind, .string c.key, .int .i64 c.blob, .int .i64 c.other, .int .i64 c.index, .int .i64 c.node, .int .i64 c.size, .int .u32 c.sum, .int .i64 c.k, .int .i64 c.m, nv]
abbrev zeroC : Array Value := #[.int .i64 0, .int .i64 0, .string ⟨#[]⟩, .int .i64 0, .int .i64 0, .int .i64 0, .int .i64 0, .int .i64 0, .int .u32 0, .int .i64 0, .int .i64 0, .slice none 0 0]
theorem cmd_one (c : Cs0) {v : Value} (hv : v.oneCell' = true) : (cmdA c v).toList.toArray.all (·.oneCell') = true := all_oneCell_toArray (fun x hx => by
  simp only [List.mem_cons, List.not_mem_nil, or_false] at hx
  rcases hx with rfl | rfl | rfl | rfl | rfl | rfl | rfl | rfl | rfl | rfl | rfl | rfl <;> first | rfl | exact hv)
theorem szCmd : (Tryd.prog.info? 27).map (·.size) = some 12 := by kernel_rfl
theorem dsCmd : ∃ d, Tryd.prog.underlying 27 = some d ∧ d.isRow = true := ⟨_, Tryd.underlying27, rfl⟩

end Go.Proofs.YtoepemgflbmlcaaDoor

/- bits.Len64; numbers up to a bound (laid by scripts/mknd.py). -/
namespace Go.Proofs.YtoepemgflbmlcaaDoor
set_option linter.unusedVariables false
set_option linter.unusedSimpArgs false
open Go.RowKit Go.Deep

/-- how many bits -/
def blen (n : Nat) : Nat := if n = 0 then 0 else Nat.log2 n + 1
theorem blen_half {n : Nat} (h : n ≠ 0) : blen n = blen (n / 2) + 1 := by
  unfold blen
  rw [if_neg h]
  by_cases h1 : n / 2 = 0
  · have : n = 1 := by omega
    subst this
    rfl
  · rw [if_neg h1]
    have h2 : 2 ≤ n := by omega
    rw [Nat.log2_def n, if_pos h2]
theorem blen_shift : ∀ (k n : Nat), 2 ^ k ≤ n → blen n = blen (n / 2 ^ k) + k
  | 0, n, _ => by simp
  | k + 1, n, h => by
    have hp : 0 < 2 ^ (k + 1) := Nat.pow_pos (by decide)
    rw [blen_half (by omega), blen_shift k (n / 2) (by rw [Nat.le_div_iff_mul_le (by decide), ← Nat.pow_succ]; exact h), Nat.div_div_eq_div_mul, ← Nat.pow_succ', Nat.add_assoc]
theorem blen_numW (n : Nat) : (blen n + 7) / 8 = numW n := by
  induction n using Nat.strongRecOn with
  | _ n ih =>
    by_cases h0 : n = 0
    · subst h0; rw [numW_zero]; rfl
    · rw [numW_pos h0]
      by_cases h : 2 ^ 8 ≤ n
      · rw [blen_shift 8 n h, ← ih (n / 256) (by omega)]
        show _ = (blen (n / 2 ^ 8) + 7) / 8 + 1
        omega
      · have h1 : n / 256 = 0 := by omega
        rw [h1, numW_zero]
        have hb : blen n = Nat.log2 n + 1 := by unfold blen; rw [if_neg h0]
        have : Nat.log2 n < 8 := (Nat.log2_lt h0).2 (by omega)
        omega
abbrev tab8 : ByteArray := ⟨#[0, 1, 2, 2, 3, 3, 3, 3, 4, 4, 4, 4, 4, 4, 4, 4, 5, 5, 5, 5, 5, 5, 5, 5, 5, 5, 5, 5, 5, 5, 5, 5, 6, 6, 6, 6, 6, 6, 6, 6, 6, 6, 6, 6, 6, 6, 6, 6, 6, 6, 6, 6, 6, 6, 6, 6, 6, 6, 6, 6, 6, 6, 6, 6, 7, 7, 7, 7, 7, 7, 7, 7, 7, 7, 7, 7, 7, 7, 7, 7, 7, 7, 7, 7, 7, 7, 7, 7, 7, 7, 7, 7, 7, 7, 7, 7, 7, 7, 7, 7, 7, 7, 7, 7, 7, 7, 7, 7, 7, 7, 7, 7, 7, 7, 7, 7, 7, 7, 7, 7, 7, 7, 7, 7, 7, 7, 7, 7, 8, 8, 8, 8, 8, 8, 8, 8, 8, 8, 8, 8, 8, 8, 8, 8, 8, 8, 8, 8, 8, 8, 8, 8, 8, 8, 8, 8, 8, 8, 8, 8, 8, 8, 8, 8, 8, 8, 8, 8, 8, 8, 8, 8, 8, 8, 8, 8, 8, 8, 8, 8, 8, 8, 8, 8, 8, 8, 8, 8, 8, 8, 8, 8, 8, 8, 8, 8, 8, 8, 8, 8, 8, 8, 8, 8, 8, 8, 8, 8, 8, 8, 8, 8, 8, 8, 8, 8, 8, 8, 8, 8, 8, 8, 8, 8, 8, 8, 8, 8, 8, 8, 8, 8, 8, 8, 8, 8, 8, 8, 8, 8, 8, 8, 8, 8, 8, 8, 8, 8, 8, 8, 8, 8, 8, 8, 8, 8]⟩
set_option maxRecDepth 100000 in
theorem tab8_at : ∀ x : Fin 256, tab8.data[x.val]? = some (UInt8.ofNat (blen x.val)) := by decide

set_option maxRecDepth 100000 in
theorem tab8_run (x : Nat) (hx : x < 256) (w : World) : (Instr.index 9 (.string tab8) (.int .u8 (x : Int))).run Tryd.prog w = .ok (.int .u8 (blen x : Int)) w := by
  have h := tab8_at ⟨x, hx⟩
  have hb : blen x < 256 := by
    unfold blen
    split
    · decide
    · have : Nat.log2 x < 8 := (Nat.log2_lt (by assumption)).2 (by omega)
      omega
  have h2 : (tab8 : ByteArray)[x]? = some (UInt8.ofNat (blen x)) := by
    have hs : x < tab8.size := hx
    rw [getElem?_pos tab8 x hs]
    have h3 : tab8.data[x]? = some (tab8.data[x]'hs) := Array.getElem?_eq_getElem hs
    rw [h3] at h
    injection h with h
    exact congrArg some h
  have h4 : (UInt8.ofNat (blen x)).toNat = blen x := by rw [UInt8.toNat_ofNat']; omega
  have hu := run_underlying (P := Tryd.prog) Tryd.underlying9 (w := w)
  have h5 : (0 : Int) ≤ (x : Int) := by omega
  generalize tab8 = tb at h2 ⊢
  simp [Instr.index, asIntOf, hu, h2, h4, h5, go_sem]
end Go.Proofs.YtoepemgflbmlcaaDoor
