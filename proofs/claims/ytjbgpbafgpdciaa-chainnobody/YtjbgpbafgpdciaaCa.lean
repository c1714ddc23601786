/- A chain in memory: its commands by slots. -/
import Derived.Test.YtjbgpbafgpdciaaMz
import Derived.Test.YtjbgpbafgpdciaaQv
namespace Go.Proofs.Ytjbgpbafgpdciaa
set_option linter.unusedVariables false
open Go.RowKit Go.Deep Go.Maps

def cs00 : Cs0 := ⟨0, 0, ⟨#[]⟩, 0, 0, 0, 0, 0, 0, 0, 0⟩
abbrev nil0 : Value := .slice none 0 0
/-- a command with its nodes, and the slice that holds them -/
abbrev Cv : Type := Cs0 × List Int × Value
abbrev ccell (x : Cv) : Array Value := cmdA x.1 x.2.2
def cmap (C : Int → Option Cv) : Int → Option Value := fun z => (C z).map (fun x => .agg (ccell x))
/-- C with x at z -/
def cupd (C : Int → Option Cv) (z : Int) (x : Cv) : Int → Option Cv := fun y => if y = z then some x else C y
theorem cmap_upd (C : Int → Option Cv) (z : Int) (x : Cv) : upd (cmap C) z (.agg (ccell x)) = cmap (cupd C z x) := by
  funext y
  unfold upd cmap cupd
  by_cases e : y = z
  · rw [if_pos e, if_pos e]; rfl
  · rw [if_neg e, if_neg e]
theorem csome (C : Int → Option Cv) (z : Int) : (cmap C z).isSome = (C z).isSome := by unfold cmap; cases C z <;> rfl
theorem cget (C : Int → Option Cv) (z : Int) : (cmap C z).getD (.agg (ccell (cs00, [], nil0))) = .agg (ccell ((C z).getD (cs00, [], nil0))) := by
  unfold cmap; cases C z <;> rfl
/-- n is the first from 1 on that C has not -/
def Fst (C : Int → Option Cv) (n : Int) : Prop := 1 ≤ n ∧ C n = none ∧ ∀ z, 1 ≤ z → z < n → (C z).isSome = true
/-- a chain in memory: block t, its map m; the lists of its commands in blocks of which Z holds -/
structure Ch (w : World) (Z : Nat → Prop) (t m q c : Nat) (nxt : Int) (C : Int → Option Cv) : Prop where
  lv : Lv w t [.map (some m), .int .i64 nxt]
  mm : Mm w m q c (cmap C)
  ne : t ≠ m
  ni : ∀ z x, C z = some x → Ni w Z x.2.1 x.2.2
  ap : ∀ b, Z b → b ≠ t ∧ b ≠ m
  fs : Fst C nxt
  dm : ∀ z x, C z = some x → 1 ≤ z ∧ z ≤ 1152921504606846976
theorem Fst.le {C : Int → Option Cv} {n : Int} (h : Fst C n) (hd : ∀ z x, C z = some x → 1 ≤ z ∧ z ≤ 1152921504606846976) : 1 ≤ n ∧ n ≤ 1152921504606846977 := by
  refine ⟨h.1, ?_⟩
  rcases Int.lt_or_le 1152921504606846977 n with hl | hl
  · have := h.2.2 1152921504606846977 (by omega) hl
    obtain ⟨x, hx⟩ := Option.isSome_iff_exists.1 this
    have := hd _ x hx
    omega
  · exact hl
theorem Fst.uniq {C : Int → Option Cv} {n m : Int} (h : Fst C n) (k : Fst C m) : n = m := by
  rcases Int.lt_trichotomy n m with e | e | e
  · have := k.2.2 n h.1 e
    rw [h.2.1] at this; cases this
  · exact e
  · have := h.2.2 m k.1 e
    rw [k.2.1] at this; cases this
section
variable {w : World} {Z : Nat → Prop} {t m q c : Nat} {nxt : Int} {C : Int → Option Cv}
theorem Ch.keep {S : Nat → Prop} {w' : World} (h : Ch w Z t m q c nxt C) (k : Kp S w w') (hS : ∀ b, Z b → ¬ S b) (ht : ¬ S t) (hm : ¬ S m) : Ch w' Z t m q c nxt C :=
  ⟨h.lv.keep k ht, h.mm.keep k hm, h.ne, fun z x hx => (h.ni z x hx).keep k hS, h.ap, h.fs, h.dm⟩
theorem Ch.keep0 {w' : World} (h : Ch w Z t m q c nxt C) (k : Kp (fun _ => False) w w') : Ch w' Z t m q c nxt C := h.keep k (fun _ _ => id) id id
theorem Ch.mono {Z' : Nat → Prop} (h : Ch w Z t m q c nxt C) (hz : ∀ b, Z b → Z' b) (ha : ∀ b, Z' b → b ≠ t ∧ b ≠ m) : Ch w Z' t m q c nxt C :=
  ⟨h.lv, h.mm, h.ne, fun z x hx => (h.ni z x hx).mono hz, ha, h.fs, h.dm⟩
theorem Ch.lt (h : Ch w Z t m q c nxt C) : t < w.heap.size ∧ m < w.heap.size := ⟨h.lv.lt (by simp), h.mm.lt⟩
theorem Ch.c0 (h : Ch w Z t m q c nxt C) : w.cell? ⟨t, 0, none⟩ = some (.map (some m)) := h.lv.cell (j := 0) rfl
theorem Ch.c1 (h : Ch w Z t m q c nxt C) : w.cell? ⟨t, 1, none⟩ = some (.int .i64 nxt) := h.lv.cell (j := 1) rfl
theorem Ch.rng (h : Ch w Z t m q c nxt C) : 1 ≤ nxt ∧ nxt ≤ 1152921504606846977 := h.fs.le h.dm
end

theorem uCmd : Try.prog.underlying 53 = some (.map 3 34) := Try.underlying53
theorem zCmd (w : World) : (zeroValue 34).run Try.prog w = .ok (.agg (ccell (cs00, [], nil0))) w := by kernel_rfl

set_option maxRecDepth 100000 in
set_option maxHeartbeats 800000 in
theorem cnew_ok (w : World) :
    Calls Try.prog 9 #[] w fun e w' => ∃ t m, e = .returned (.pointer (some ⟨t, 0, none⟩)) ∧ Kp (fun _ => False) w w' ∧ w.heap.size ≤ t ∧ w.heap.size ≤ m ∧ Ch w' (fun _ => False) t m 0 0 1 (fun _ => none) := by
  have hmm : ∀ (t : TypeId) (w : World), (Instr.makeMap t none).run Try.prog w = .ok (.map (some w.heap.size)) (w.alloc (.map #[] 0)) := fun _ _ => rfl
  go_enter Try.func9, Try.ntmps9
  go_wp2
  go_ret
  obtain ⟨w1, hw1⟩ : ∃ x, x = w.alloc (.map #[] 0) := ⟨_, rfl⟩
  have z1 : w1.heap.size = w.heap.size + 1 := by rw [hw1]; simp
  have k1 : Kp (fun _ => False) w w1 := by rw [hw1]; exact (Kp.refl _ _).alloc _
  have m1 : Mm w1 w.heap.size 0 0 (fun _ => none) := by rw [hw1]; exact Mm.made w
  rw [← hw1]
  have k2 : Kp (fun _ => False) w1 (w1.alloc (.cells #[.map (some w.heap.size), .int .i64 1] 55)) := (Kp.refl _ _).alloc _
  have hl := Lv.new w1 #[.map (some w.heap.size), .int .i64 1] 55
  rw [z1] at hl
  exact ⟨w.heap.size + 1, w.heap.size, rfl, k1.trans k2 (fun _ _ e => e), by omega, Nat.le_refl _,
    ⟨hl, m1.keep k2 id, by omega, fun _ _ h => (by cases h), fun _ h => h.elim, ⟨by omega, rfl, fun z h1 h2 => (by omega)⟩, fun _ _ h => (by cases h)⟩⟩

theorem neq_nil_cmap (m : Nat) (w : World) : (binOp .neq 53 (.map (some m)) (.map none)).run Try.prog w = .ok (.bool true) w := by
  first | kernel_rfl | (simp [binOp, run_underlying Try.underlying53]) 
theorem neq_none_cmap (w : World) : (binOp .neq 53 (.map none) (.map none)).run Try.prog w = .ok (.bool false) w := by kernel_rfl

set_option maxRecDepth 100000 in
theorem cmade_ok {w : World} {Z : Nat → Prop} {t m q c : Nat} {nxt : Int} {C : Int → Option Cv} (h : Ch w Z t m q c nxt C) :
    Calls Try.prog 22 #[.pointer (some ⟨t, 0, none⟩)] w fun e w' => e = .returned (.bool true) ∧ w' = w := by
  have c0 := h.c0
  have hne := neq_nil_cmap m w
  clear h
  go_enter Try.func22, Try.ntmps22
  go_wp2
  go_ret
  exact ⟨rfl, rfl⟩

set_option maxRecDepth 100000 in
theorem cnext_ok {w : World} {Z : Nat → Prop} {t m q c : Nat} {nxt : Int} {C : Int → Option Cv} (h : Ch w Z t m q c nxt C) :
    Calls Try.prog 12 #[.pointer (some ⟨t, 0, none⟩)] w fun e w' => e = .returned (.int .i64 nxt) ∧ w' = w := by
  have c1 := h.c1
  have H : Hid (Calls _ _ _ w _) := cmade_ok h
  clear h
  go_enter Try.func12, Try.ntmps12
  go_wp2_with (go_at_call 22; refine H.out.mono ?_; rintro e w' ⟨rfl, hw'⟩; obtain rfl := hw'.symm; clear hw')
  go_ret
  exact ⟨rfl, rfl⟩

end Go.Proofs.Ytjbgpbafgpdciaa
