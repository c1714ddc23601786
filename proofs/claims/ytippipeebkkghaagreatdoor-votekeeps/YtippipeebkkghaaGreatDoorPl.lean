/- A plate in memory: its cells, its durable bytes, the map of what was written since. -/
import Derived.Test.YtippipeebkkghaaGreatDoorPn
import Derived.Deep.WholeRow
import Derived.Deep.MidRow
import Derived.Maps.OwnSet
import Derived.Maps.OwnOps
import Derived.Maps.RangeWalk
import Derived.Maps.Views
import Derived.StillTailTactics
namespace Go.Proofs.YtippipeebkkghaaGreatDoor
open Go.RowKit Go.Deep Go.Maps

/-- the 64 bytes of a sector, as the map holds them -/
def Sec (xs : List Nat) : Prop := xs.length = 64 ∧ ∀ x ∈ xs, x < 256
abbrev secV (xs : List Nat) : Value := .agg (vl xs).toArray
open Classical in
noncomputable def secR (v : Value) : Option (DataW (List Nat) × List MemPlace) := if h : ∃ xs, Sec xs ∧ v = secV xs then some (.held h.choose, []) else none
theorem secV_inj {xs ys : List Nat} (h : secV xs = secV ys) : xs = ys := by
  injection h with h
  exact vl_inj (List.toArray_inj h)
theorem secR_mk {xs : List Nat} (h : Sec xs) : secR (secV xs) = some (.held xs, []) := by
  have hx : ∃ ys, Sec ys ∧ secV xs = secV ys := ⟨xs, h, rfl⟩
  unfold secR
  rw [dif_pos hx]
  have := secV_inj hx.choose_spec.2
  rw [← this]
theorem secR_inv {v : Value} {y : DataW (List Nat) × List MemPlace} (h : secR v = some y) : ∃ xs, Sec xs ∧ v = secV xs ∧ y = (.held xs, []) := by
  unfold secR at h
  split at h
  · rename_i hx
    exact ⟨hx.choose, hx.choose_spec.1, hx.choose_spec.2, (Option.some.inj h).symm⟩
  · cases h
abbrev ik (i : Nat) : Lit := .int .i64 (i : Int)
theorem ik_inj {i j : Nat} (h : ik i = ik j) : i = j := by injection h with _ h; exact Int.natCast_inj.1 h
theorem keyLaw : Keyed Tryz.prog 3 := int_keyed Tryz.underlying3
theorem ik_key (i : Nat) (h : (i : Int) ≤ 1000000) : keyOf Tryz.prog 3 (.int .i64 (i : Int)) = some (ik i) := keyOf_int_mk Tryz.underlying3 (WalkArith.wf_i64 (by omega))
theorem ik_lit (i : Nat) : WideAt.IsKeyLit (ik i) := trivial

/-- block m is a map that holds what T says, of keys below n; q: no more entries than that -/
def Mp (w : World) (m n q : Nat) (T : Nat → Option (List Nat)) : Prop :=
  ∃ D, w.ownsMap Tryz.prog 3 secR m q D ∧ (∀ i, i < n → (T i = none → Maps.has D (ik i) = false) ∧ ∀ xs, T i = some xs → Sec xs ∧ Maps.has D (ik i) = true ∧ ∀ z, D.atKey (ik i) z = .held xs) ∧ (∀ kl, Maps.has D kl = true → ∃ i, i < n ∧ kl = ik i) ∧ ∀ i, n ≤ i → T i = none
theorem Mp.mono {w : World} {m n q q' : Nat} {T : Nat → Option (List Nat)} (h : Mp w m n q T) (hq : q ≤ q') : Mp w m n q' T := by
  obtain ⟨D, h1, h2⟩ := h
  exact ⟨D, h1.mono hq, h2⟩
theorem Mp.lt {w : World} {m n q : Nat} {T : Nat → Option (List Nat)} (h : Mp w m n q T) : m < w.heap.size := by
  obtain ⟨D, h1, h2⟩ := h
  exact h1.lt
theorem Mp.keep {S : Nat → Prop} {w w' : World} {m n q : Nat} {T : Nat → Option (List Nat)} (h : Mp w m n q T) (k : Kp S w w') (hS : ¬ S m) : Mp w' m n q T := by
  have hlt := h.lt
  obtain ⟨D, ⟨es, clock, hb, r⟩, h2⟩ := h
  exact ⟨D, ⟨es, clock, (k.block m hlt hS).trans hb, r⟩, h2⟩
theorem Mp.made (w : World) (n : Nat) : Mp (w.alloc (.map #[] 0)) w.heap.size n 0 (fun _ => none) :=
  ⟨_, World.ownsMap_made w _ _ _, fun i _ => ⟨fun _ => rfl, fun xs h => (by cases h)⟩, fun kl h => (by cases h), fun _ _ => rfl⟩
theorem Mp.put {w w' : World} {m n q i : Nat} {T : Nat → Option (List Nat)} {xs : List Nat} {D : DataW (List Nat)} (hi : i < n) (hx : Sec xs) (h1 : w.ownsMap Tryz.prog 3 secR m q D)
    (h2 : (∀ i, i < n → (T i = none → Maps.has D (ik i) = false) ∧ ∀ xs, T i = some xs → Sec xs ∧ Maps.has D (ik i) = true ∧ ∀ z, D.atKey (ik i) z = .held xs) ∧ (∀ kl, Maps.has D kl = true → ∃ i, i < n ∧ kl = ik i) ∧ ∀ i, n ≤ i → T i = none)
    (h3 : w'.ownsMap Tryz.prog 3 secR m (q + 1) (D.put (ik i) (.held xs))) : Mp w' m n (q + 1) (fun j => if j = i then some xs else T j) := by
  have hM := h1.isMap
  refine ⟨_, h3, fun j hj => ?_, fun kl hk => ?_, fun j hj => by show (if j = i then some xs else T j) = none; rw [if_neg (by omega)]; exact h2.2.2 j hj⟩
  · by_cases e : j = i
    · subst e
      simp only [if_true]
      exact ⟨fun h => (by cases h), fun ys hy => (by cases hy; exact ⟨hx, has_put_same hM (ik_lit _) _, fun z => atKey_put_same hM (ik_lit _) _ z⟩)⟩
    · have hne : ik j ≠ ik i := fun h => e (ik_inj h)
      simp only [if_neg e]
      refine ⟨fun h => by rw [has_put_other hne]; exact (h2.1 j hj).1 h, fun ys hy => ?_⟩
      obtain ⟨a, b, c⟩ := (h2.1 j hj).2 ys hy
      exact ⟨a, by rw [has_put_other hne]; exact b, fun z => by rw [atKey_put_other hne]; exact c z⟩
  · by_cases e : kl = ik i
    · exact ⟨i, hi, e⟩
    · rw [has_put_other e] at hk
      exact h2.2.1 kl hk

/-- the durable bytes at block d: n sectors, g j at place j (what lies behind them is nobody's) -/
def Dr (w : World) (d n : Nat) (g : Nat → Nat) : Prop := ∃ (cp : Nat) (f : Nat → Value), n * 64 ≤ cp ∧ w.rowIs d 5 cp (fun j => if j < n * 64 then .int .u8 ((g j : Nat) : Int) else f j)
theorem Dr.cell {w : World} {d n : Nat} {g : Nat → Nat} (h : Dr w d n g) {j : Nat} (hj : j < n * 64) : w.cell? ⟨d, j, none⟩ = some (.int .u8 ((g j : Nat) : Int)) := by
  obtain ⟨cp, f, hc, hr⟩ := h
  rw [hr.cell (i := j) (by omega), if_pos hj]
theorem Dr.lt {w : World} {d n : Nat} {g : Nat → Nat} (h : Dr w d n g) : d < w.heap.size := by
  obtain ⟨cp, f, hc, hr⟩ := h
  exact hr.lt
theorem Dr.keep {S : Nat → Prop} {w w' : World} {d n : Nat} {g : Nat → Nat} (h : Dr w d n g) (k : Kp S w w') (hd : ¬ S d) : Dr w' d n g := by
  obtain ⟨cp, f, hc, hr⟩ := h
  exact ⟨cp, f, hc, k.row hr hd⟩
theorem Dr.congr {w : World} {d n : Nat} {g g' : Nat → Nat} (h : Dr w d n g) (e : ∀ j, j < n * 64 → g j = g' j) : Dr w d n g' := by
  obtain ⟨cp, f, hc, hr⟩ := h
  refine ⟨cp, f, hc, hr.congr (fun j _ => ?_)⟩
  by_cases hj : j < n * 64
  · rw [if_pos hj, if_pos hj, e j hj]
  · rw [if_neg hj, if_neg hj]
theorem Dr.of_row {w : World} {d n : Nat} {g : Nat → Nat} (h : w.rowIs d 5 (n * 64) (fun j => .int .u8 ((g j : Nat) : Int))) : Dr w d n g :=
  ⟨n * 64, fun _ => .int .u8 0, Nat.le_refl _, h.congr (fun j hj => by rw [if_pos hj])⟩

/-- a plate at block b: n sectors, durable bytes at d, the map at m -/
structure Pt (w : World) (b d m n q : Nat) (dur : List Nat) (T : Nat → Option (List Nat)) : Prop where
  c0 : w.cell? ⟨b, 0, none⟩ = some (.int .i64 (n : Int))
  c1 : ∃ cp, n * 64 ≤ cp ∧ w.cell? ⟨b, 1, none⟩ = some (.slice (some ⟨d, 0, none⟩) (n * 64) cp)
  c2 : w.cell? ⟨b, 2, none⟩ = some (.map (some m))
  c3 : w.cell? ⟨b, 3, none⟩ = some (.bool false)
  fz : ∀ j, w.frozen? ⟨b, j, none⟩ = false
  row : Dr w d n (fun j => dur.getD j 0)
  len : dur.length = n * 64
  byte : ∀ x ∈ dur, x < 256
  mp : Mp w m n q T
  bd : b ≠ d
  bm : b ≠ m
  dm : d ≠ m
  n1 : 1 ≤ n
  n2 : n ≤ 8192
theorem Pt.lt {w : World} {b d m n q : Nat} {dur : List Nat} {T : Nat → Option (List Nat)} (h : Pt w b d m n q dur T) : b < w.heap.size := World.block_lt_of_cell? w _ h.c0
theorem Pt.keep {S : Nat → Prop} {w w' : World} {b d m n q : Nat} {dur : List Nat} {T : Nat → Option (List Nat)} (h : Pt w b d m n q dur T) (k : Kp S w w') (hb : ¬ S b) (hd : ¬ S d) (hm : ¬ S m) : Pt w' b d m n q dur T :=
  ⟨k.cellv h.c0 hb, (by obtain ⟨cp, hc, c1⟩ := h.c1; exact ⟨cp, hc, k.cellv c1 hb⟩), k.cellv h.c2 hb, k.cellv h.c3 hb, fun j => by rw [World.frozen?_of_block (w := w) (k.block b h.lt hb)]; exact h.fz j, h.row.keep k hd, h.len, h.byte, h.mp.keep k hm, h.bd, h.bm, h.dm, h.n1, h.n2⟩

set_option maxRecDepth 100000 in
set_option maxHeartbeats 400000 in
theorem made_ok {w : World} {b d m n q : Nat} {dur : List Nat} {T : Nat → Option (List Nat)} (h : Pt w b d m n q dur T) :
    Calls Tryz.prog 53 #[.pointer (some ⟨b, 0, none⟩)] w fun e w' => e = .returned (.bool true) ∧ w' = w := by
  have c0 := h.c0
  have hn : 0 < n := h.n1
  have hn' : decide (0 < n) = true := decide_eq_true hn
  clear h
  go_enter Tryz.func53, Tryz.ntmps53
  go_wp2
  go_ret
  exact ⟨rfl, rfl⟩

set_option maxRecDepth 100000 in
set_option maxHeartbeats 400000 in
theorem state_ok {w : World} {b d m n q : Nat} {dur : List Nat} {T : Nat → Option (List Nat)} (h : Pt w b d m n q dur T) :
    Calls Tryz.prog 25 #[.pointer (some ⟨b, 0, none⟩)] w fun e w' => e = .returned (.int .i64 0) ∧ w' = w := by
  have H : Hid (Calls _ _ _ w _) := made_ok h
  have c3 := h.c3
  clear h
  go_enter Tryz.func25, Tryz.ntmps25
  go_wp2_with (go_at_call 53; refine H.out.mono ?_; rintro e w' ⟨rfl, rfl⟩)
  go_ret
  exact ⟨rfl, rfl⟩

set_option maxRecDepth 100000 in
set_option maxHeartbeats 400000 in
theorem has_ok {w : World} {b d m n q : Nat} {dur : List Nat} {T : Nat → Option (List Nat)} (h : Pt w b d m n q dur T) (i : Nat) (hi : (i : Int) < (n : Int)) :
    Calls Tryz.prog 212 #[.pointer (some ⟨b, 0, none⟩), .int .i64 (i : Int)] w fun e w' => e = .returned (.int .i64 0) ∧ w' = w := by
  have H : Hid (Calls _ _ _ w _) := state_ok h
  have c0 := h.c0
  have d1 : decide ((n : Int) ≤ (i : Int)) = false := by simp; omega
  clear h
  go_enter Tryz.func212, Tryz.ntmps212
  go_wp2_with (go_at_call 25; refine H.out.mono ?_; rintro e w' ⟨rfl, rfl⟩)
  go_ret
  exact ⟨rfl, rfl⟩

set_option maxRecDepth 100000 in
set_option maxHeartbeats 400000 in
theorem has_out {w : World} {b d m n q : Nat} {dur : List Nat} {T : Nat → Option (List Nat)} (h : Pt w b d m n q dur T) (i : Int) (hi : ¬ (0 ≤ i ∧ i < (n : Int))) :
    Calls Tryz.prog 212 #[.pointer (some ⟨b, 0, none⟩), .int .i64 i] w fun e w' => e = .returned (.int .i64 1) ∧ w' = w := by
  have H : Hid (Calls _ _ _ w _) := state_ok h
  have c0 := h.c0
  clear h
  by_cases h0 : i < 0
  · have d1 : decide (i < 0) = true := by simp; omega
    go_enter Tryz.func212, Tryz.ntmps212
    go_wp2_with (go_at_call 25; refine H.out.mono ?_; rintro e w' ⟨rfl, rfl⟩)
    go_ret
    exact ⟨rfl, rfl⟩
  · have d1 : decide (i < 0) = false := by simp; omega
    have d2 : decide ((n : Int) ≤ i) = true := by simp; omega
    clear hi
    go_enter Tryz.func212, Tryz.ntmps212
    go_wp2_with (go_at_call 25; refine H.out.mono ?_; rintro e w' ⟨rfl, rfl⟩)
    go_ret
    exact ⟨rfl, rfl⟩
end Go.Proofs.YtippipeebkkghaaGreatDoor
