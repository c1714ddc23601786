/- New clocks; ticks of whatever clock, behind whatever ticks. -/
import Derived.Test.YtjjghgbegecbeaaDk
namespace Go.Proofs.Ytjjghgbegecbeaa
open Go.RowKit Go.Deep Go.Maps

set_option maxRecDepth 100000 in
set_option maxHeartbeats 800000 in
theorem cktick_no {w : World} {b t m N : Nat} {T : Nat → Nat} {L : Nat → Nat → Nat} (h : Ck w b t m N T L) (n : Nat) (hn : (n : Int) < (N : Int)) (hm : ¬ ∀ o, o < N → L n o < 2) :
    Calls Try.prog 26 #[.pointer (some ⟨b, 0, none⟩), .int .i64 (n : Int)] w fun e w' => e = .returned (.int .i64 100) ∧ Kp (fun _ => False) w w' := by
  have H0 := why_ok h n hn
  rw [if_neg hm] at H0
  have H : Hid (Calls _ _ _ w _) := H0
  clear h hm H0
  go_enter Try.func26, Try.ntmps26
  go_wp2_with (go_at_call 41; refine H.out.mono ?_; rintro e w1 ⟨rfl, k1⟩)
  go_ret
  exact ⟨rfl, k1⟩

set_option maxRecDepth 100000 in
set_option maxHeartbeats 800000 in
theorem cktick_not {w : World} {b t m N : Nat} {T : Nat → Nat} {L : Nat → Nat → Nat} (h : Ck w b t m N T L) (n : Int) (hn : n < 0 ∨ (N : Int) ≤ n) :
    Calls Try.prog 26 #[.pointer (some ⟨b, 0, none⟩), .int .i64 n] w fun e w' => e = .returned (.int .i64 1) ∧ Kp (fun _ => False) w w' := by
  have H : Hid (Calls _ _ _ w _) := why_not h n hn
  clear h hn
  go_enter Try.func26, Try.ntmps26
  go_wp2_with (go_at_call 41; refine H.out.mono ?_; rintro e w1 ⟨rfl, k1⟩)
  go_ret
  exact ⟨rfl, k1⟩

set_option maxRecDepth 100000 in
set_option maxHeartbeats 800000 in
theorem cknew_ok (N : Nat) (w : World) (h1 : 1 ≤ (N : Int)) (h2 : (N : Int) ≤ 16) :
    Calls Try.prog 24 #[.int .i64 (N : Int)] w fun e w' => ∃ b t m, e = .returned (.tuple #[.pointer (some ⟨b, 0, none⟩), .int .i64 0]) ∧ Kp (fun _ => False) w w' ∧ w.heap.size ≤ b ∧ w.heap.size ≤ t ∧ w.heap.size ≤ m ∧ Ck w' b t m N (fun _ => 0) (fun _ _ => 0) := by
  have hmk : ∀ w : World, (Instr.makeSlice 46 (.int .i64 (N : Int)) (.int .i64 (N : Int))).run Try.prog w = .ok (.slice (some ⟨w.heap.size, 0, none⟩) N N) (w.alloc (.cells (madeCells #[.int .i64 0] N) 3)) := fun w =>
    run_make_row' (P := Try.prog) 46 3 (.int .i64 0) 8 Try.underlying46 infoIntD rfl .i64 .i64 N (by omega) (by omega) w
  have hmm : ∀ (t : TypeId) (w : World), (Instr.makeMap t none).run Try.prog w = .ok (.map (some w.heap.size)) (w.alloc (.map #[] 0)) := fun _ _ => rfl
  have d1 : decide ((N : Int) < 1) = false := by simp; omega
  have d2 : decide ((16 : Int) < (N : Int)) = false := by simp; omega
  go_enter Try.func24, Try.ntmps24
  go_wp2
  go_ret2
  obtain ⟨w1, hw1⟩ : ∃ x, x = w.alloc (.cells (madeCells #[.int .i64 0] N) 3) := ⟨_, rfl⟩
  obtain ⟨w2, hw2⟩ : ∃ x, x = w1.alloc (.map #[] 0) := ⟨_, rfl⟩
  have z1 : w1.heap.size = w.heap.size + 1 := by rw [hw1]; simp
  have z2 : w2.heap.size = w1.heap.size + 1 := by rw [hw2]; simp
  have k1 : Kp (fun _ => False) w w1 := by rw [hw1]; exact (Kp.refl _ _).alloc _
  have k2 : Kp (fun _ => False) w1 w2 := by rw [hw2]; exact (Kp.refl _ _).alloc _
  have r1 : w1.rowIs w.heap.size 3 N (fun _ => .int .i64 ((0 : Nat) : Int)) := by rw [hw1]; exact World.rowIs_made w (.int .i64 0) N 3
  have m2 : Lm w2 w1.heap.size N (fun _ _ => 0) := by rw [hw2]; exact Lm.made w1 N
  rw [← hw1, ← hw2]
  obtain ⟨cs, hcs⟩ : ∃ cs : Array Value, cs = #[.slice (some ⟨w.heap.size, 0, none⟩) N N, .map (some (w.heap.size + 1))] := ⟨_, rfl⟩
  rw [← hcs]
  obtain ⟨w3, hw3⟩ : ∃ x, x = w2.alloc (.cells cs 80) := ⟨_, rfl⟩
  have e2 : w2.heap.size = w.heap.size + 1 + 1 := by omega
  rw [← hw3]
  have k3 : Kp (fun _ => False) w2 w3 := by rw [hw3]; exact (Kp.refl _ _).alloc _
  have hh := heap_alloc_new w2 (.cells cs 80)
  rw [← hw3, e2] at hh
  have cc : ∀ j v, cs[j]? = some v → w3.cell? ⟨w.heap.size + 1 + 1, j, none⟩ = some v := fun j v hv => by
    rw [cell_of_row _ _ j cs _ (0, 0) hh]
    exact hv
  have hmm2 := m2.keep k3 id
  rw [z1] at hmm2
  exact ⟨_, w.heap.size, w.heap.size + 1, rfl, (k1.trans k2 (fun _ _ e => e)).trans k3 (fun _ _ e => e), by omega, Nat.le_refl _, by omega, cc 0 _ (by rw [hcs]; rfl), cc 1 _ (by rw [hcs]; rfl), k3.row (k2.row r1 id) id, hmm2, by omega, by omega, by omega, by omega, by omega⟩

set_option maxRecDepth 100000 in
set_option maxHeartbeats 800000 in
theorem cknew_not (n : Int) (w : World) (h : n < 1 ∨ 16 < n) :
    Calls Try.prog 24 #[.int .i64 n] w fun e w' => e = .returned (.tuple #[.pointer none, .int .i64 1]) ∧ Kp (fun _ => False) w w' := by
  by_cases h1 : n < 1
  · have d1 : decide (n < 1) = true := decide_eq_true h1
    clear h
    go_enter Try.func24, Try.ntmps24
    go_wp2
    go_ret2
    exact ⟨rfl, Kp.refl _ _⟩
  · have d1 : decide (n < 1) = false := decide_eq_false h1
    have d2 : decide (16 < n) = true := decide_eq_true (by omega)
    clear h h1
    go_enter Try.func24, Try.ntmps24
    go_wp2
    go_ret2
    exact ⟨rfl, Kp.refl _ _⟩


/-- clocks behind the ticks h -/
def Cs (w : World) (b t m N : Nat) (h : List Nat) : Prop := Ck w b t m N (fun j => h.count j) (lead h) ∧ adm N h
theorem Cs.keep {S : Nat → Prop} {w w' : World} {b t m N : Nat} {h : List Nat} (H : Cs w b t m N h) (k : Kp S w w') (hb : ¬ S b) (ht : ¬ S t) (hm : ¬ S m) : Cs w' b t m N h := ⟨H.1.keep k hb ht hm, H.2⟩
theorem Ck.congr {w : World} {b t m N : Nat} {T T' : Nat → Nat} {L L' : Nat → Nat → Nat} (h : Ck w b t m N T L) (e1 : ∀ j, j < N → T j = T' j) (e2 : ∀ a b, a < N → b < N → L a b = L' a b) : Ck w b t m N T' L' :=
  ⟨h.c0, h.c1, h.row.congr (fun j hj => by rw [e1 j hj]), h.mp.congr e2, h.bt, h.bm, h.tm, h.n1, h.n2⟩
/-- what Tick tells, and the ticks behind it -/
def tickE (N : Nat) (h : List Nat) (x : Int) : Int := if x < 0 ∨ (N : Int) ≤ x then 1 else if may N h x.toNat then 0 else 100
def tickH (N : Nat) (h : List Nat) (x : Int) : List Nat := if x < 0 ∨ (N : Int) ≤ x then h else if may N h x.toNat then x.toNat :: h else h
def mayX (N : Nat) (h : List Nat) (x : Int) : Bool := decide (tickE N h x = 0)
def nowX (N : Nat) (h : List Nat) (x : Int) : Int := if x < 0 ∨ (N : Int) ≤ x then 0 else ((h.count x.toNat : Nat) : Int)
theorem tickH_len (N : Nat) (h : List Nat) (x : Int) : (tickH N h x).length ≤ h.length + 1 := by unfold tickH; split; omega; split <;> simp
theorem tickH_adm {N : Nat} {h : List Nat} (H : adm N h) (x : Int) : adm N (tickH N h x) := by
  unfold tickH
  split
  · exact H
  · split
    · exact ⟨by omega, by assumption, H⟩
    · exact H
theorem cknew_cs (N : Nat) (w : World) (h1 : 1 ≤ (N : Int)) (h2 : (N : Int) ≤ 16) :
    Calls Try.prog 24 #[.int .i64 (N : Int)] w fun e w' => ∃ b t m, e = .returned (.tuple #[.pointer (some ⟨b, 0, none⟩), .int .i64 0]) ∧ Kp (fun _ => False) w w' ∧ w.heap.size ≤ b ∧ w.heap.size ≤ t ∧ w.heap.size ≤ m ∧ Cs w' b t m N [] :=
  (cknew_ok N w h1 h2).mono fun e w' ⟨b, t, m, he, k, hb, ht, hm, hC⟩ => ⟨b, t, m, he, k, hb, ht, hm, hC.congr (fun j _ => by simp) (fun a b _ _ => by simp [lead]), trivial⟩
theorem cktick_cs {w : World} {b t m N : Nat} {h : List Nat} (H : Cs w b t m N h) (x : Int) (hl : (h.length : Int) ≤ 4611686018427387904) :
    Calls Try.prog 26 #[.pointer (some ⟨b, 0, none⟩), .int .i64 x] w fun e w' => e = .returned (.int .i64 (tickE N h x)) ∧ Kp (fun y => y = t ∨ y = m) w w' ∧ Cs w' b t m N (tickH N h x) := by
  unfold tickE tickH
  by_cases hx : x < 0 ∨ (N : Int) ≤ x
  · rw [if_pos hx, if_pos hx]
    exact (cktick_not H.1 x hx).mono fun e w' ⟨he, k⟩ => ⟨he, k.mono (fun _ _ e => e.elim), H.keep k id id id⟩
  · rw [if_neg hx, if_neg hx]
    obtain ⟨n, rfl⟩ : ∃ n : Nat, x = (n : Int) := ⟨x.toNat, by omega⟩
    rw [Int.toNat_natCast]
    have hn : n < N := by omega
    by_cases hm : may N h n
    · rw [if_pos hm, if_pos hm]
      refine (cktick_ok0 H.1 n (by omega) hm (fun o ho => lead_le H.2 o n ho hn) (by have := List.count_le_length (a := n) (l := h); omega)).mono fun e w' ⟨he, k, hC⟩ => ⟨he, k, hC.congr (fun j _ => ?_) (fun a b ha hb => tickTo_lead h n N a b ha hb), hn, hm, H.2⟩
      unfold tickT
      rw [List.count_cons]
      by_cases e : j = n
      · subst e; simp
      · have : (n == j) = false := by simp; omega
        simp [e, this]
    · rw [if_neg hm, if_neg hm]
      exact (cktick_no H.1 n (by omega) hm).mono fun e w' ⟨he, k⟩ => ⟨he, k.mono (fun _ _ e => e.elim), H.keep k id id id⟩

theorem cknow_cs {w : World} {b t m N : Nat} {h : List Nat} (H : Cs w b t m N h) (x : Int) :
    Calls Try.prog 25 #[.pointer (some ⟨b, 0, none⟩), .int .i64 x] w fun e w' => e = .returned (.int .i64 (nowX N h x)) ∧ Kp (fun _ => False) w w' := by
  unfold nowX
  by_cases hx : x < 0 ∨ (N : Int) ≤ x
  · rw [if_pos hx]
    exact cknow_not H.1 x hx
  · rw [if_neg hx]
    obtain ⟨n, rfl⟩ : ∃ n : Nat, x = (n : Int) := ⟨x.toNat, by omega⟩
    rw [Int.toNat_natCast]
    exact cknow_ok H.1 n (by omega)
end Go.Proofs.Ytjjghgbegecbeaa
