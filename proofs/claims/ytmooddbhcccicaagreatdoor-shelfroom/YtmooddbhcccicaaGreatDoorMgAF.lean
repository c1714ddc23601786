/- Texts of this proof, joined: Pn, Pl, Pl2. -/
import Derived.Test.YtmooddbhcccicaaGreatDoorMgAA
import Derived.Deep.WholeRow
import Derived.Deep.MidRow
import Derived.Maps.OwnSet
import Derived.Maps.OwnOps
import Derived.Maps.RangeWalk
import Derived.Maps.Views
import Derived.StillTailTactics
/- A plate that no call made: the walks of its methods. -/
namespace Go.Proofs.YtmooddbhcccicaaGreatDoor
open Go.RowKit Go.Deep

/-- pv is a plate that no call made -/
def No (w : World) (pv : Value) : Prop := pv = .pointer none ∨ ∃ b, pv = .pointer (some ⟨b, 0, none⟩) ∧ w.cell? ⟨b, 0, none⟩ = some (.int .i64 0)
theorem No.keep {w w' : World} {pv : Value} (h : No w pv) (k : Kp (fun _ => False) w w') : No w' pv := by
  rcases h with h | ⟨b, h, hc⟩
  · exact Or.inl h
  · exact Or.inr ⟨b, h, k.cellv hc id⟩

set_option maxRecDepth 100000 in
set_option maxHeartbeats 400000 in
theorem made_no (pv : Value) (w : World) (h : No w pv) :
    Calls Tryz.prog 96 #[pv] w fun e w' => e = .returned (.bool false) ∧ w' = w := by
  rcases h with rfl | ⟨b, rfl, hc⟩
  · go_enter Tryz.func96, Tryz.ntmps96
    go_wp2
    go_ret
    exact ⟨rfl, rfl⟩
  · go_enter Tryz.func96, Tryz.ntmps96
    go_wp2
    go_ret
    exact ⟨rfl, rfl⟩

set_option maxRecDepth 100000 in
set_option maxHeartbeats 400000 in
theorem state_no (pv : Value) (w : World) (h : No w pv) :
    Calls Tryz.prog 51 #[pv] w fun e w' => e = .returned (.int .i64 2) ∧ w' = w := by
  have H : Hid (Calls _ _ _ w _) := made_no pv w h
  go_enter Tryz.func51, Tryz.ntmps51
  go_wp2_with (go_at_call 96; refine H.out.mono ?_; rintro e w' ⟨rfl, rfl⟩)
  go_ret
  exact ⟨rfl, rfl⟩

set_option maxRecDepth 100000 in
set_option maxHeartbeats 400000 in
theorem has_no (pv : Value) (i : Int) (w : World) (h : No w pv) :
    Calls Tryz.prog 227 #[pv, .int .i64 i] w fun e w' => e = .returned (.int .i64 2) ∧ w' = w := by
  have H : Hid (Calls _ _ _ w _) := state_no pv w h
  go_enter Tryz.func227, Tryz.ntmps227
  go_wp2_with (go_at_call 51; refine H.out.mono ?_; rintro e w' ⟨rfl, rfl⟩)
  go_ret
  exact ⟨rfl, rfl⟩

set_option maxRecDepth 100000 in
set_option maxHeartbeats 400000 in
theorem sectors_no (pv : Value) (w : World) (h : No w pv) :
    Calls Tryz.prog 65 #[pv] w fun e w' => e = .returned (.int .i64 0) ∧ w' = w := by
  have H : Hid (Calls _ _ _ w _) := made_no pv w h
  go_enter Tryz.func65, Tryz.ntmps65
  go_wp2_with (go_at_call 96; refine H.out.mono ?_; rintro e w' ⟨rfl, rfl⟩)
  go_ret
  exact ⟨rfl, rfl⟩

set_option maxRecDepth 100000 in
set_option maxHeartbeats 400000 in
theorem read_no (pv : Value) (i : Int) (w : World) (h : No w pv) :
    Calls Tryz.prog 218 #[pv, .int .i64 i] w fun e w' => e = .returned (.tuple #[.slice none 0 0, .int .i64 2]) ∧ w' = w := by
  have H : Hid (Calls _ _ _ w _) := has_no pv i w h
  go_enter Tryz.func218, Tryz.ntmps218
  go_wp2_with (go_at_call 227; refine H.out.mono ?_; rintro e w' ⟨rfl, rfl⟩)
  go_ret2
  exact ⟨rfl, rfl⟩

set_option maxRecDepth 100000 in
set_option maxHeartbeats 400000 in
theorem write_no (pv : Value) (i : Int) (x : Value) (w : World) (h : No w pv) :
    Calls Tryz.prog 205 #[pv, .int .i64 i, x] w fun e w' => e = .returned (.int .i64 2) ∧ w' = w := by
  have H : Hid (Calls _ _ _ w _) := has_no pv i w h
  go_enter Tryz.func205, Tryz.ntmps205
  go_wp2_with (go_at_call 227; refine H.out.mono ?_; rintro e w' ⟨rfl, rfl⟩)
  go_ret
  exact ⟨rfl, rfl⟩

set_option maxRecDepth 100000 in
set_option maxHeartbeats 400000 in
theorem sync_no (pv : Value) (w : World) (h : No w pv) :
    Calls Tryz.prog 137 #[pv] w fun e w' => e = .returned (.int .i64 2) ∧ w' = w := by
  have H : Hid (Calls _ _ _ w _) := state_no pv w h
  go_enter Tryz.func137, Tryz.ntmps137
  go_wp2_with (go_at_call 51; refine H.out.mono ?_; rintro e w' ⟨rfl, rfl⟩)
  go_ret
  exact ⟨rfl, rfl⟩

set_option maxRecDepth 100000 in
set_option maxHeartbeats 400000 in
theorem crash_no (pv : Value) (x : Value) (i n : Int) (w : World) (h : No w pv) :
    Calls Tryz.prog 23 #[pv, x, .int .i64 i, .int .i64 n] w fun e w' => e = .returned (.int .i64 2) ∧ w' = w := by
  have H : Hid (Calls _ _ _ w _) := state_no pv w h
  go_enter Tryz.func23, Tryz.ntmps23
  go_wp2_with (go_at_call 51; refine H.out.mono ?_; rintro e w' ⟨rfl, rfl⟩)
  go_ret
  exact ⟨rfl, rfl⟩

set_option maxRecDepth 100000 in
set_option maxHeartbeats 400000 in
theorem image_no (pv : Value) (w : World) (h : No w pv) :
    Calls Tryz.prog 69 #[pv] w fun e w' => e = .returned (.slice none 0 0) ∧ w' = w := by
  have H : Hid (Calls _ _ _ w _) := state_no pv w h
  go_enter Tryz.func69, Tryz.ntmps69
  go_wp2_with (go_at_call 51; refine H.out.mono ?_; rintro e w' ⟨rfl, rfl⟩)
  go_ret
  exact ⟨rfl, rfl⟩

set_option maxRecDepth 100000 in
set_option maxHeartbeats 400000 in
theorem dirty_no (pv : Value) (w : World) (h : No w pv) :
    Calls Tryz.prog 25 #[pv] w fun e w' => e = .returned (.slice none 0 0) ∧ w' = w := by
  have H : Hid (Calls _ _ _ w _) := state_no pv w h
  go_enter Tryz.func25, Tryz.ntmps25
  go_wp2_with (go_at_call 51; refine H.out.mono ?_; rintro e w' ⟨rfl, rfl⟩)
  go_ret
  exact ⟨rfl, rfl⟩

set_option maxRecDepth 100000 in
set_option maxHeartbeats 400000 in
theorem failed_no (pv : Value) (w : World) (h : No w pv) :
    Calls Tryz.prog 66 #[pv] w fun e w' => e = .returned (.bool false) ∧ w' = w := by
  have H : Hid (Calls _ _ _ w _) := state_no pv w h
  go_enter Tryz.func66, Tryz.ntmps66
  go_wp2_with (go_at_call 51; refine H.out.mono ?_; rintro e w' ⟨rfl, rfl⟩)
  go_ret
  exact ⟨rfl, rfl⟩

end Go.Proofs.YtmooddbhcccicaaGreatDoor

/- A plate in memory: its cells, its durable bytes, the map of what was written since. -/
namespace Go.Proofs.YtmooddbhcccicaaGreatDoor
open Go.RowKit Go.Deep Go.Maps

/-- the 64 bytes of a sector, as the map holds them -/
def Sec (xs : List Nat) : Prop := xs.length = 64 ∧ ∀ x ∈ xs, x < 256
abbrev secV (xs : List Nat) : Value := .agg (vl xs).toArray
open Classical in
noncomputable def secR (v : Value) : Option (DataW (List Nat) × List MemPlace) := if h : ∃ xs, Sec xs ∧ v = secV xs then some (.held h.choose, []) else none
theorem secV_inj {xs ys : List Nat} (h : secV xs = secV ys) : xs = ys := by
  injection h with h
  exact vl_inj (List.toArray_inj h)
theorem secR_mk {xs : List Nat} (h : Sec xs) : secR (secV xs) = some (.held xs, []) := by
  have hx : ∃ ys, Sec ys ∧ secV xs = secV ys := ⟨xs, h, rfl⟩
  unfold secR
  rw [dif_pos hx]
  have := secV_inj hx.choose_spec.2
  rw [← this]
theorem secR_inv {v : Value} {y : DataW (List Nat) × List MemPlace} (h : secR v = some y) : ∃ xs, Sec xs ∧ v = secV xs ∧ y = (.held xs, []) := by
  unfold secR at h
  split at h
  · rename_i hx
    exact ⟨hx.choose, hx.choose_spec.1, hx.choose_spec.2, (Option.some.inj h).symm⟩
  · cases h
abbrev ik (i : Nat) : Lit := .int .i64 (i : Int)
theorem ik_inj {i j : Nat} (h : ik i = ik j) : i = j := by injection h with _ h; exact Int.natCast_inj.1 h
theorem keyLaw : Keyed Tryz.prog 3 := int_keyed Tryz.underlying3
theorem ik_key (i : Nat) (h : (i : Int) ≤ 1000000) : keyOf Tryz.prog 3 (.int .i64 (i : Int)) = some (ik i) := keyOf_int_mk Tryz.underlying3 (WalkArith.wf_i64 (by omega))
theorem ik_lit (i : Nat) : WideAt.IsKeyLit (ik i) := trivial

/-- block m is a map that holds what T says, of keys below n; q: no more entries than that -/
def Mp (w : World) (m n q : Nat) (T : Nat → Option (List Nat)) : Prop :=
  ∃ D, w.ownsMap Tryz.prog 3 secR m q D ∧ (∀ i, i < n → (T i = none → Maps.has D (ik i) = false) ∧ ∀ xs, T i = some xs → Sec xs ∧ Maps.has D (ik i) = true ∧ ∀ z, D.atKey (ik i) z = .held xs) ∧ (∀ kl, Maps.has D kl = true → ∃ i, i < n ∧ kl = ik i) ∧ ∀ i, n ≤ i → T i = none
theorem Mp.mono {w : World} {m n q q' : Nat} {T : Nat → Option (List Nat)} (h : Mp w m n q T) (hq : q ≤ q') : Mp w m n q' T := by
  obtain ⟨D, h1, h2⟩ := h
  exact ⟨D, h1.mono hq, h2⟩
theorem Mp.lt {w : World} {m n q : Nat} {T : Nat → Option (List Nat)} (h : Mp w m n q T) : m < w.heap.size := by
  obtain ⟨D, h1, h2⟩ := h
  exact h1.lt
theorem Mp.keep {S : Nat → Prop} {w w' : World} {m n q : Nat} {T : Nat → Option (List Nat)} (h : Mp w m n q T) (k : Kp S w w') (hS : ¬ S m) : Mp w' m n q T := by
  have hlt := h.lt
  obtain ⟨D, ⟨es, clock, hb, r⟩, h2⟩ := h
  exact ⟨D, ⟨es, clock, (k.block m hlt hS).trans hb, r⟩, h2⟩
theorem Mp.made (w : World) (n : Nat) : Mp (w.alloc (.map #[] 0)) w.heap.size n 0 (fun _ => none) :=
  ⟨_, World.ownsMap_made w _ _ _, fun i _ => ⟨fun _ => rfl, fun xs h => (by cases h)⟩, fun kl h => (by cases h), fun _ _ => rfl⟩
theorem Mp.put {w w' : World} {m n q i : Nat} {T : Nat → Option (List Nat)} {xs : List Nat} {D : DataW (List Nat)} (hi : i < n) (hx : Sec xs) (h1 : w.ownsMap Tryz.prog 3 secR m q D)
    (h2 : (∀ i, i < n → (T i = none → Maps.has D (ik i) = false) ∧ ∀ xs, T i = some xs → Sec xs ∧ Maps.has D (ik i) = true ∧ ∀ z, D.atKey (ik i) z = .held xs) ∧ (∀ kl, Maps.has D kl = true → ∃ i, i < n ∧ kl = ik i) ∧ ∀ i, n ≤ i → T i = none)
    (h3 : w'.ownsMap Tryz.prog 3 secR m (q + 1) (D.put (ik i) (.held xs))) : Mp w' m n (q + 1) (fun j => if j = i then some xs else T j) := by
  have hM := h1.isMap
  refine ⟨_, h3, fun j hj => ?_, fun kl hk => ?_, fun j hj => by show (if j = i then some xs else T j) = none; rw [if_neg (by omega)]; exact h2.2.2 j hj⟩
  · by_cases e : j = i
    · subst e
      simp only [if_true]
      exact ⟨fun h => (by cases h), fun ys hy => (by cases hy; exact ⟨hx, has_put_same hM (ik_lit _) _, fun z => atKey_put_same hM (ik_lit _) _ z⟩)⟩
    · have hne : ik j ≠ ik i := fun h => e (ik_inj h)
      simp only [if_neg e]
      refine ⟨fun h => by rw [has_put_other hne]; exact (h2.1 j hj).1 h, fun ys hy => ?_⟩
      obtain ⟨a, b, c⟩ := (h2.1 j hj).2 ys hy
      exact ⟨a, by rw [has_put_other hne]; exact b, fun z => by rw [atKey_put_other hne]; exact c z⟩
  · by_cases e : kl = ik i
    · exact ⟨i, hi, e⟩
    · rw [has_put_other e] at hk
      exact h2.2.1 kl hk

/-- the durable bytes at block d: n sectors, g j at place j (what lies behind them is nobody's) -/
def Dr (w : World) (d n : Nat) (g : Nat → Nat) : Prop := ∃ (cp : Nat) (f : Nat → Value), n * 64 ≤ cp ∧ w.rowIs d 5 cp (fun j => if j < n * 64 then .int .u8 ((g j : Nat) : Int) else f j)
theorem Dr.cell {w : World} {d n : Nat} {g : Nat → Nat} (h : Dr w d n g) {j : Nat} (hj : j < n * 64) : w.cell? ⟨d, j, none⟩ = some (.int .u8 ((g j : Nat) : Int)) := by
  obtain ⟨cp, f, hc, hr⟩ := h
  rw [hr.cell (i := j) (by omega), if_pos hj]
theorem Dr.lt {w : World} {d n : Nat} {g : Nat → Nat} (h : Dr w d n g) : d < w.heap.size := by
  obtain ⟨cp, f, hc, hr⟩ := h
  exact hr.lt
theorem Dr.keep {S : Nat → Prop} {w w' : World} {d n : Nat} {g : Nat → Nat} (h : Dr w d n g) (k : Kp S w w') (hd : ¬ S d) : Dr w' d n g := by
  obtain ⟨cp, f, hc, hr⟩ := h
  exact ⟨cp, f, hc, k.row hr hd⟩
theorem Dr.congr {w : World} {d n : Nat} {g g' : Nat → Nat} (h : Dr w d n g) (e : ∀ j, j < n * 64 → g j = g' j) : Dr w d n g' := by
  obtain ⟨cp, f, hc, hr⟩ := h
  refine ⟨cp, f, hc, hr.congr (fun j _ => ?_)⟩
  by_cases hj : j < n * 64
  · rw [if_pos hj, if_pos hj, e j hj]
  · rw [if_neg hj, if_neg hj]
theorem Dr.of_row {w : World} {d n : Nat} {g : Nat → Nat} (h : w.rowIs d 5 (n * 64) (fun j => .int .u8 ((g j : Nat) : Int))) : Dr w d n g :=
  ⟨n * 64, fun _ => .int .u8 0, Nat.le_refl _, h.congr (fun j hj => by rw [if_pos hj])⟩

/-- a plate at block b: n sectors, durable bytes at d, the map at m -/
structure Pt (w : World) (b d m n q : Nat) (dur : List Nat) (T : Nat → Option (List Nat)) : Prop where
  c0 : w.cell? ⟨b, 0, none⟩ = some (.int .i64 (n : Int))
  c1 : ∃ cp, n * 64 ≤ cp ∧ w.cell? ⟨b, 1, none⟩ = some (.slice (some ⟨d, 0, none⟩) (n * 64) cp)
  c2 : w.cell? ⟨b, 2, none⟩ = some (.map (some m))
  c3 : w.cell? ⟨b, 3, none⟩ = some (.bool false)
  fz : ∀ j, w.frozen? ⟨b, j, none⟩ = false
  row : Dr w d n (fun j => dur.getD j 0)
  len : dur.length = n * 64
  byte : ∀ x ∈ dur, x < 256
  mp : Mp w m n q T
  bd : b ≠ d
  bm : b ≠ m
  dm : d ≠ m
  n1 : 1 ≤ n
  n2 : n ≤ 8192
theorem Pt.lt {w : World} {b d m n q : Nat} {dur : List Nat} {T : Nat → Option (List Nat)} (h : Pt w b d m n q dur T) : b < w.heap.size := World.block_lt_of_cell? w _ h.c0
theorem Pt.keep {S : Nat → Prop} {w w' : World} {b d m n q : Nat} {dur : List Nat} {T : Nat → Option (List Nat)} (h : Pt w b d m n q dur T) (k : Kp S w w') (hb : ¬ S b) (hd : ¬ S d) (hm : ¬ S m) : Pt w' b d m n q dur T :=
  ⟨k.cellv h.c0 hb, (by obtain ⟨cp, hc, c1⟩ := h.c1; exact ⟨cp, hc, k.cellv c1 hb⟩), k.cellv h.c2 hb, k.cellv h.c3 hb, fun j => by rw [World.frozen?_of_block (w := w) (k.block b h.lt hb)]; exact h.fz j, h.row.keep k hd, h.len, h.byte, h.mp.keep k hm, h.bd, h.bm, h.dm, h.n1, h.n2⟩

set_option maxRecDepth 100000 in
set_option maxHeartbeats 400000 in
theorem made_ok {w : World} {b d m n q : Nat} {dur : List Nat} {T : Nat → Option (List Nat)} (h : Pt w b d m n q dur T) :
    Calls Tryz.prog 96 #[.pointer (some ⟨b, 0, none⟩)] w fun e w' => e = .returned (.bool true) ∧ w' = w := by
  have c0 := h.c0
  have hn : 0 < n := h.n1
  have hn' : decide (0 < n) = true := decide_eq_true hn
  clear h
  go_enter Tryz.func96, Tryz.ntmps96
  go_wp2
  go_ret
  exact ⟨rfl, rfl⟩

set_option maxRecDepth 100000 in
set_option maxHeartbeats 400000 in
theorem state_ok {w : World} {b d m n q : Nat} {dur : List Nat} {T : Nat → Option (List Nat)} (h : Pt w b d m n q dur T) :
    Calls Tryz.prog 51 #[.pointer (some ⟨b, 0, none⟩)] w fun e w' => e = .returned (.int .i64 0) ∧ w' = w := by
  have H : Hid (Calls _ _ _ w _) := made_ok h
  have c3 := h.c3
  clear h
  go_enter Tryz.func51, Tryz.ntmps51
  go_wp2_with (go_at_call 96; refine H.out.mono ?_; rintro e w' ⟨rfl, rfl⟩)
  go_ret
  exact ⟨rfl, rfl⟩

set_option maxRecDepth 100000 in
set_option maxHeartbeats 400000 in
theorem has_ok {w : World} {b d m n q : Nat} {dur : List Nat} {T : Nat → Option (List Nat)} (h : Pt w b d m n q dur T) (i : Nat) (hi : (i : Int) < (n : Int)) :
    Calls Tryz.prog 227 #[.pointer (some ⟨b, 0, none⟩), .int .i64 (i : Int)] w fun e w' => e = .returned (.int .i64 0) ∧ w' = w := by
  have H : Hid (Calls _ _ _ w _) := state_ok h
  have c0 := h.c0
  have d1 : decide ((n : Int) ≤ (i : Int)) = false := by simp; omega
  clear h
  go_enter Tryz.func227, Tryz.ntmps227
  go_wp2_with (go_at_call 51; refine H.out.mono ?_; rintro e w' ⟨rfl, rfl⟩)
  go_ret
  exact ⟨rfl, rfl⟩

set_option maxRecDepth 100000 in
set_option maxHeartbeats 400000 in
theorem has_out {w : World} {b d m n q : Nat} {dur : List Nat} {T : Nat → Option (List Nat)} (h : Pt w b d m n q dur T) (i : Int) (hi : ¬ (0 ≤ i ∧ i < (n : Int))) :
    Calls Tryz.prog 227 #[.pointer (some ⟨b, 0, none⟩), .int .i64 i] w fun e w' => e = .returned (.int .i64 1) ∧ w' = w := by
  have H : Hid (Calls _ _ _ w _) := state_ok h
  have c0 := h.c0
  clear h
  by_cases h0 : i < 0
  · have d1 : decide (i < 0) = true := by simp; omega
    go_enter Tryz.func227, Tryz.ntmps227
    go_wp2_with (go_at_call 51; refine H.out.mono ?_; rintro e w' ⟨rfl, rfl⟩)
    go_ret
    exact ⟨rfl, rfl⟩
  · have d1 : decide (i < 0) = false := by simp; omega
    have d2 : decide ((n : Int) ≤ i) = true := by simp; omega
    clear hi
    go_enter Tryz.func227, Tryz.ntmps227
    go_wp2_with (go_at_call 51; refine H.out.mono ?_; rintro e w' ⟨rfl, rfl⟩)
    go_ret
    exact ⟨rfl, rfl⟩
end Go.Proofs.YtmooddbhcccicaaGreatDoor

/- The walks of a plate's sector, Write and Read. -/
namespace Go.Proofs.YtmooddbhcccicaaGreatDoor
open Go.RowKit Go.Deep Go.Maps

theorem slice3 (d n c l r : Nat) (hl : l < r) (hr : r ≤ c) (w : World) :
    (Instr.slice 34 (.slice (some ⟨d, 0, none⟩) n c) (some (.int .i64 (l : Int))) (some (.int .i64 (r : Int))) (some (.int .i64 (r : Int)))).run Tryz.prog w = .ok (.slice (some ⟨d, l, none⟩) (r - l) (r - l)) w := by
  obtain ⟨i, hi, hz⟩ := Option.map_eq_some_iff.1 info5
  simp only [Prod.mk.injEq] at hz
  obtain ⟨hz, hs, hb⟩ := hz
  have h1 : (0 : Int) ≤ l ∧ (l : Int) ≤ (r : Int) := by omega
  have h2 : (0 : Int) ≤ r ∧ (r : Int) ≤ (c : Int) := by omega
  have h3 : l ≤ r := by omega
  have h4 : ¬ (r = l) := by omega
  simp [Instr.slice, Instr.sliceBounds, Instr.sliceBound, asIntOf, run_underlying Tryz.underlying34, sizeOf, typeInfo, hi, hs, h3, hr, h4, Addr.add]
  omega

set_option maxRecDepth 100000 in
set_option maxHeartbeats 400000 in
theorem sector_ok {w : World} {b d m n q : Nat} {dur : List Nat} {T : Nat → Option (List Nat)} (h : Pt w b d m n q dur T) (i : Nat) (hi : (i : Int) < (n : Int)) :
    Calls Tryz.prog 61 #[.pointer (some ⟨b, 0, none⟩), .int .i64 (i : Int)] w fun e w' => e = .returned (.slice (some ⟨d, i * 64, none⟩) 64 64) ∧ w' = w := by
  obtain ⟨cp, hcp, c1⟩ := h.c1
  have hn2 : (n : Int) ≤ 8192 := by have := h.n2; omega
  have s1 := slice3 d (n * 64) cp (i * 64) (i * 64 + 64) (by omega) (by omega)
  rw [show i * 64 + 64 - i * 64 = 64 from by omega, show ((i * 64 + 64 : Nat) : Int) = ((i : Int) + 1) * 64 from by omega, show ((i * 64 : Nat) : Int) = (i : Int) * 64 from by omega] at s1
  clear h
  go_enter Tryz.func61, Tryz.ntmps61
  go_wp2
  go_ret
  exact ⟨rfl, rfl⟩

/-- bytes of a slice, as the cells of an array -/
theorem rb_range {w : World} {bb o n : Nat} {xs : List Nat} (h : Rb w (some ⟨bb, o, none⟩) n xs) : w.rangeAt bb o (vl xs) := fun j v hv => by
  have hj : j < xs.length := by
    have := (List.getElem?_eq_some_iff.1 hv).1
    rwa [vl_length] at this
  obtain ⟨b', o', e, hc⟩ := h.cell j (by rw [← h.len]; exact hj)
  simp only [Option.some.injEq, Addr.mk.injEq, and_true] at e
  obtain ⟨rfl, rfl⟩ := e
  rw [hc, ← vl_get hj, hv]
theorem infoSec : (Tryz.prog.info? 108).map (fun i => (i.zero, i.size)) = some (some (secV (List.replicate 64 0)), 64) := by kernel_rfl
theorem sizeSec : (Tryz.prog.info? 108).map (·.size) = some 64 := by kernel_rfl

/-- an array is read whole, in a region that stands still -/
theorem wpStill_load {P : Program} {ops : Array Oper} {w : World} {Q : Act → Prop} {rest : List Oper} {o : Oper} {a : Act} (hg : o.guard = none) (ty : TypeId) (x : Operand) (ho : o.op = .load ty x) (v : Value)
    (hrun : (Instr.loadAt ty (a.eval x)).run P w = .ok v w) (h : wpStill P ops w Q rest (a.put o.dst v)) : wpStill P ops w Q (o :: rest) a := by
  unfold wpStill
  have hw : Region.wanted o (yielded ops a.tmps) = true := by simp [Region.wanted, hg]
  rw [if_pos hw]
  simp [Oper.still, execOp, ho, hrun, Oper.stillUpon, h]

theorem Pt.newmap {w w' : World} {b d m n q q' : Nat} {dur : List Nat} {T T' : Nat → Option (List Nat)} (h : Pt w b d m n q dur T) (k : Kp (fun x => x = m) w w') (hm : Mp w' m n q' T') : Pt w' b d m n q' dur T' :=
  ⟨k.cellv h.c0 h.bm, (by obtain ⟨cp, hc, c1⟩ := h.c1; exact ⟨cp, hc, k.cellv c1 h.bm⟩), k.cellv h.c2 h.bm, k.cellv h.c3 h.bm, fun j => by rw [World.frozen?_of_block (w := w) (k.block b h.lt h.bm)]; exact h.fz j, h.row.keep k h.dm, h.len, h.byte, hm, h.bd, h.bm, h.dm, h.n1, h.n2⟩

set_option maxRecDepth 100000 in
set_option maxHeartbeats 800000 in
theorem write_ok {w : World} {b d m n q : Nat} {dur : List Nat} {T : Nat → Option (List Nat)} (h : Pt w b d m n q dur T) (hq : (q : Int) < 9223372036854775807) (i : Nat) (hi : (i : Int) < (n : Int)) (bb o c : Nat) (xs : List Nat) (hx : Rb w (some ⟨bb, o, none⟩) 64 xs) :
    Calls Tryz.prog 205 #[.pointer (some ⟨b, 0, none⟩), .int .i64 (i : Int), .slice (some ⟨bb, o, none⟩) 64 c] w fun e w' => e = .returned (.int .i64 0) ∧ Kp (fun x => x = m) w w' ∧ Pt w' b d m n (q + 1) dur (fun j => if j = i then some xs else T j) := by
  have H : Hid (Calls _ _ _ w _) := has_ok h i hi
  have c2 := h.c2
  have hn2 : (n : Int) ≤ 8192 := by have := h.n2; omega
  go_enter Tryz.func205, Tryz.ntmps205
  go_wp2_with (go_at_call 227; refine H.out.mono ?_; rintro e w' ⟨rfl, rfl⟩)
  have hA : ∀ w : World, (Instr.arrayAt 108 (.slice (some ⟨bb, o, none⟩) 64 c)).run Tryz.prog w = .ok (.pointer (some ⟨bb, o, none⟩)) w := fun w => by
    simp [Instr.arrayAt, run_underlying Tryz.underlying108]
  clear H
  refine wp_region_still_tail 8 (by kernel_rfl) (by kernel_rfl) ?_
  obtain ⟨wd, hwd⟩ : ∃ x : World, x = { w' with drawn := w'.drawn + 1 } := ⟨_, rfl⟩
  have kd : Kp (fun _ => False) w' wd := by rw [hwd]; exact (Kp.refl _ _).drew
  rw [← hwd]
  have hd := h.keep kd id id id
  have hLd := run_loadAt_mid (P := Tryz.prog) wd bb o 108 (vl xs) _ (rb_range (hx.keep0 kd)) Tryz.underlying108 rfl (by rw [vl_length, hx.len]; exact sizeSec)
  have c2d := hd.c2
  clear hwd c2
  have HX : Hid (Sec xs) := ⟨hx.len, hx.byte⟩
  have HP : Hid (Pt wd b d m n q dur T) := hd
  clear hd h hx
  simp only [List.take_succ_cons, List.take_zero, List.drop_succ_cons, List.drop_zero]
  iterate 7 still_step
  refine wpStill_load rfl 108 _ rfl _ hLd ?_
  refine wpStill_nil ?_
  obtain ⟨D, hown, hDD⟩ := HP.out.mp
  refine wpList_mapUpdate_own _ rfl _ _ _ 101 rfl 3 108 keyLaw Tryz.underlying101 secR m q D rfl hown (by unfold maxLen; omega) _ _ _ rfl rfl (ik_key i (by omega)) (.held xs) [] (secR_mk HX.out) ?_
  intro w1 hown1 hg1
  have k1 := grownBy_kp hg1
  have HPt : Hid (Pt w1 b d m n (q + 1) dur (fun j => if j = i then some xs else T j)) := HP.out.newmap (k1.mono (fun x _ e => (Option.some.inj e).symm)) (Mp.put (by omega) HX.out hown hDD hown1)
  have kk : Kp (fun x => x = m) w' w1 := (kd.mono (S' := fun x => x = m) (fun _ _ e => e.elim)).trans (k1.mono (S' := fun x => x = m) (fun x _ e => (Option.some.inj e).symm)) (fun _ _ e => e)
  clear hown hDD hown1 hg1 HP
  go_wp2
  go_ret
  exact ⟨rfl, kk, HPt.out⟩

/-- the element at a key, and whether it is there -/
theorem wpList_lookup_sec {ops : Array Oper} {rest : List Oper} {o : Oper} {a : Act} {w : World} {Q : Exit → Act → World → Prop} (hg : o.guard = none) (mm x : Operand) (hop : o.op = Op.lookup 101 mm x true) (m q : Nat) (D : DataW (List Nat))
    (hm : a.eval mm = .map (some m)) (hown : w.ownsMap Tryz.prog 3 secR m q D) (key : Value) (kl : Lit) (hx : a.eval x = key) (hkey : keyOf Tryz.prog 3 key = some kl)
    (hK : ∀ ys, Sec ys → D.atKey kl (.held (List.replicate 64 0)) = .held ys → wpList Tryz.prog ops Q rest (a.put o.dst (.tuple #[secV ys, .bool (Maps.has D kl)])) w) : wpList Tryz.prog ops Q (o :: rest) a w := by
  have hz : Sec (List.replicate 64 0) := ⟨by simp, fun x hx => by rw [List.eq_of_mem_replicate hx]; omega⟩
  refine wpList_lookup_own_ok _ hg mm x 101 hop 3 108 keyLaw Tryz.underlying101 secR ((zero_of_info infoSec).1 w) (.held (List.replicate 64 0)) [] (secR_mk hz) m q D hm hown key kl hx hkey ?_
  intro v ps hv
  obtain ⟨ys, hys, rfl, hy⟩ := secR_inv hv
  exact hK ys hys (Prod.mk.inj hy).1
/-- an array is laid whole into the block that was made last -/
theorem wpList_store_sec {ops : Array Oper} {rest : List Oper} {o : Oper} {a : Act} {w : World} {Q : Exit → Act → World → Prop} (hg : o.guard = none) (x y : Operand) (hop : o.op = Op.store 108 x y) (c : Array Value) (hc : c.size = 64) (ys : List Nat) (hys : Sec ys)
    (hx : a.eval x = .pointer (some ⟨w.heap.size, 0, none⟩)) (hy : a.eval y = secV ys)
    (hK : wpList Tryz.prog ops Q rest (a.put o.dst undef) (w.alloc (.cells (vl ys).toArray 108))) : wpList Tryz.prog ops Q (o :: rest) a (w.alloc (.cells c 108)) := by
  have hsz : (vl ys).toArray.size = 64 := by rw [List.size_toArray, vl_length, hys.1]
  have hr := run_storeAt_new (P := Tryz.prog) w 108 c (vl ys).toArray (by rw [hsz]; exact sizeSec) (by rw [hsz, hc]) (by
    rw [Array.all_eq_true_iff_forall_mem]
    intro u hu
    exact vl_one ys u (by simpa using hu))
  refine wpList_plain hg fun K hK' => ?_
  unfold Oper.wp execOp
  simp only [hop, hx, hy, Sem.run_bind, hr, Result.andThen_ok]
  exact hK' _ _ hK

/-- what a sector is now -/
def nowOf (dur : List Nat) (T : Nat → Option (List Nat)) (i : Nat) : List Nat := (T i).getD ((dur.drop (i * 64)).take 64)
theorem Pt.durSec {w : World} {b d m n q : Nat} {dur : List Nat} {T : Nat → Option (List Nat)} (h : Pt w b d m n q dur T) {i : Nat} (hi : i < n) : Sec ((dur.drop (i * 64)).take 64) :=
  ⟨by rw [List.length_take, List.length_drop, h.len]; omega, fun x hx => h.byte x (List.mem_of_mem_drop (List.mem_of_mem_take hx))⟩
theorem Pt.durRb {w : World} {b d m n q : Nat} {dur : List Nat} {T : Nat → Option (List Nat)} (h : Pt w b d m n q dur T) {i : Nat} (hi : i < n) : Rb w (some ⟨d, i * 64, none⟩) 64 ((dur.drop (i * 64)).take 64) :=
  ⟨(h.durSec hi).1, (h.durSec hi).2, fun j hj => ⟨d, i * 64, rfl, by
    rw [h.row.cell (j := i * 64 + j) (by omega)]
    rw [List.getD_eq_getElem?_getD, List.getD_eq_getElem?_getD, List.getElem?_take_of_lt hj, List.getElem?_drop]⟩⟩
theorem sec_new_rb (w : World) {ys : List Nat} (h : Sec ys) (t : TypeId) : Rb (w.alloc (.cells (vl ys).toArray t)) (some ⟨w.heap.size, 0, none⟩) 64 ys :=
  ⟨h.1, h.2, fun j hj => ⟨w.heap.size, 0, rfl, by
    have hh : (w.alloc (.cells (vl ys).toArray t)).heap[w.heap.size]? = _ := heap_alloc_new w _
    unfold World.cell?
    simp only [hh]
    rw [Nat.zero_add, List.getElem?_toArray, vl_get (by rw [h.1]; exact hj)]
    rfl⟩⟩

set_option maxRecDepth 100000 in
set_option maxHeartbeats 800000 in
theorem read_ok {w : World} {b d m n q : Nat} {dur : List Nat} {T : Nat → Option (List Nat)} (h : Pt w b d m n q dur T) (i : Nat) (hi : (i : Int) < (n : Int)) :
    Calls Tryz.prog 218 #[.pointer (some ⟨b, 0, none⟩), .int .i64 (i : Int)] w fun e w' => ∃ v, e = .returned (.tuple #[v, .int .i64 0]) ∧ Kp (fun _ => False) w w' ∧ Ow w' w.heap.size v (nowOf dur T i) ∧ Sec (nowOf dur T i) := by
  have H : Hid (Calls _ _ _ w _) := has_ok h i hi
  have c2 := h.c2
  have hn2 : (n : Int) ≤ 8192 := by have := h.n2; omega
  obtain ⟨D, hown, hDD⟩ := h.mp
  have HSe : Hid (∀ w', Kp (fun _ => False) w w' → Calls _ _ _ w' _) := fun w' k' => sector_ok (h.keep k' id id id) i hi
  have HCl : Hid (∀ w' p c xs, Rb w' p 64 xs → Calls _ _ _ w' _) := fun w' p c xs hr => clone_any p 64 c xs w' hr (show 64 ≤ 140737488355328 by omega)
  have hin : i < n := by omega
  cases hT : T i with
  | none =>
    have hh := (hDD.1 i hin).1 hT
    have HN : Hid (nowOf dur T i = (dur.drop (i * 64)).take 64) := by show _ = _; unfold nowOf; rw [hT]; rfl
    have HSc : Hid (Sec ((dur.drop (i * 64)).take 64)) := h.durSec hin
    have HDr : Hid (∀ w', Kp (fun _ => False) w w' → Rb w' (some ⟨d, i * 64, none⟩) 64 ((dur.drop (i * 64)).take 64)) := fun w' k' => (h.durRb hin).keep0 k'
    clear hDD hT h hin
    go_enter Tryz.func218, Tryz.ntmps218
    go_wp2_with (first
      | (go_at_call 227; refine H.out.mono ?_; rintro e w' ⟨rfl, rfl⟩)
      | (at_lookup; go_must (refine wpList_lookup_sec rfl _ _ rfl m q D rfl hown _ _ rfl (ik_key i (by omega)) ?_); intro ys hys hat)
      | (refine wpList_store_sec rfl _ _ rfl _ rfl ys hys rfl rfl ?_)
      | (go_at_call 61; refine (HSe.out _ (by exact (Kp.refl _ _).alloc _)).mono ?_; rintro e w2 ⟨rfl, hw2⟩; obtain rfl := hw2.symm)
      | (go_at_call 13; refine (HCl.out _ _ _ _ (by exact HDr.out _ ((Kp.refl _ _).alloc _))).mono ?_; rintro e w3 ⟨v3, rfl, k3, o3⟩))
    go_ret2
    rw [HN.out]
    exact ⟨v3, rfl, ((Kp.refl _ _).alloc _).trans k3 (fun _ _ e => e), ownsRow_base o3 (by simp), HSc.out⟩
  | some xs =>
    obtain ⟨hsx, hh, hax⟩ := (hDD.1 i hin).2 xs hT
    have HN : Hid (nowOf dur T i = xs) := by show _ = _; unfold nowOf; rw [hT]; rfl
    have hax' := hax (.held (List.replicate 64 0))
    have HSx : Hid (Sec xs) := hsx
    clear hDD hT h hin hax HSe hsx
    go_enter Tryz.func218, Tryz.ntmps218
    go_wp2_with (first
      | (go_at_call 227; refine H.out.mono ?_; rintro e w' ⟨rfl, rfl⟩)
      | (at_lookup; go_must (refine wpList_lookup_sec rfl _ _ rfl m q D rfl hown _ _ rfl (ik_key i (by omega)) ?_); intro ys hys hat)
      | (refine wpList_store_sec rfl _ _ rfl _ rfl ys hys rfl rfl ?_)
      | (go_at_call 13; refine (HCl.out _ _ _ _ (by exact sec_new_rb _ hys _)).mono ?_; rintro e w3 ⟨v3, rfl, k3, o3⟩))
    go_ret2
    have hyx : ys = xs := by rw [hax'] at hat; injection hat with hat; exact hat.symm
    rw [HN.out, ← hyx]
    exact ⟨v3, rfl, ((Kp.refl _ _).alloc _).trans k3 (fun _ _ e => e), ownsRow_base o3 (by simp), hys⟩
end Go.Proofs.YtmooddbhcccicaaGreatDoor
