/- Journals in memory: events, calls; who may ask, and hear. -/
import Derived.Test.YtbbgplnenbkfeaaMz
import Derived.Test.YtbbgplnenbkfeaaTh
namespace Go.Proofs.Ytbbgplnenbkfeaa
set_option linter.unusedVariables false
set_option linter.unusedSimpArgs false
open Go.RowKit Go.Deep Go.Maps

/-- bytes: a slice's value, and what it holds -/
structure By where
  (v : Value) (xs : List Nat)
structure By.ok (w : World) (x : By) : Prop where
  r : ∃ p cap, x.v = .slice p x.xs.length cap ∧ Rb w p x.xs.length x.xs
  n : x.xs.length ≤ 140737488355328
theorem By.ok.keep {w w' : World} {x : By} (h : x.ok w) (k : Kp (fun _ => False) w w') : x.ok w' := by
  obtain ⟨⟨p, cap, e, hr⟩, hn⟩ := h
  exact ⟨⟨p, cap, e, hr.keep0 k⟩, hn⟩
theorem By.ok.one {w : World} {x : By} (h : x.ok w) : x.v.oneCell' = true := by
  obtain ⟨⟨p, cap, e, hr⟩, hn⟩ := h
  rw [e]; rfl
def by0 : By := ⟨.slice none 0 0, []⟩
theorem by0_ok (w : World) : by0.ok w := ⟨⟨none, 0, rfl, Rb.nil _ _⟩, by decide⟩
/-- an event -/
structure Ev where
  (ans : Bool) (id kind : Int) (key : ByteArray) (b : By)
abbrev ecell (e : Ev) : List Value := [.bool e.ans, .int .i64 e.id, .int .i64 e.kind, .string e.key, e.b.v]
/-- a call -/
structure Hc where
  (e : Ev) (fr to : Int) (told : Bool) (says : Int) (g : By)
abbrev hcell (c : Hc) : List Value := [.bool c.e.ans, .int .i64 c.e.id, .int .i64 c.e.kind, .string c.e.key, c.e.b.v, .int .i64 c.fr, .int .i64 c.to, .bool c.told, .int .i64 c.says, c.g.v]
structure Ev.ok (w : World) (e : Ev) : Prop where
  b : e.b.ok w
  i : -9223372036854775808 ≤ e.id ∧ e.id ≤ 9223372036854775807
  s : e.key.size ≤ maxLen
theorem Ev.ok.keep {w w' : World} {x : Ev} (h : x.ok w) (k : Kp (fun _ => False) w w') : x.ok w' := ⟨h.b.keep k, h.i, h.s⟩
structure Hc.ok (w : World) (c : Hc) : Prop where
  e : c.e.ok w
  g : c.g.ok w
  f : 0 ≤ c.fr ∧ c.fr ≤ 1000
  t : 0 ≤ c.to ∧ c.to ≤ 9223372036854775807
theorem Hc.ok.keep {w w' : World} {x : Hc} (h : x.ok w) (k : Kp (fun _ => False) w w') : x.ok w' := ⟨h.e.keep k, h.g.keep k, h.f, h.t⟩
def ev0 : Ev := ⟨false, 0, 0, ⟨#[]⟩, by0⟩
def hc0 : Hc := ⟨ev0, 0, 0, false, 0, by0⟩
theorem ec_one (e : Ev) (h : e.b.v.oneCell' = true) : (ecell e).toArray.all (·.oneCell') = true := all_oneCell_toArray (fun x hx => by
  simp only [List.mem_cons, List.not_mem_nil, or_false] at hx
  rcases hx with rfl | rfl | rfl | rfl | rfl <;> first | rfl | exact h)
theorem hc_one (c : Hc) (h : c.e.b.v.oneCell' = true) (h2 : c.g.v.oneCell' = true) : (hcell c).toArray.all (·.oneCell') = true := all_oneCell_toArray (fun x hx => by
  simp only [List.mem_cons, List.not_mem_nil, or_false] at hx
  rcases hx with rfl | rfl | rfl | rfl | rfl | rfl | rfl | rfl | rfl | rfl <;> first | rfl | exact h | exact h2)
theorem szEv : (Try.prog.info? 29).map (·.size) = some 5 := by kernel_rfl
theorem dsEv : ∃ d, Try.prog.underlying 29 = some d ∧ d.isRow = true := ⟨_, Try.underlying29, rfl⟩
theorem szHc : (Try.prog.info? 65).map (·.size) = some 10 := by kernel_rfl
theorem dsHc : ∃ d, Try.prog.underlying 65 = some d ∧ d.isRow = true := ⟨_, Try.underlying65, rfl⟩
def eflat : List Ev → List Value
  | [] => []
  | x :: l => ecell x ++ eflat l
def hflat : List Hc → List Value
  | [] => []
  | x :: l => hcell x ++ hflat l
theorem eflat_append : ∀ l m : List Ev, eflat (l ++ m) = eflat l ++ eflat m
  | [], m => rfl
  | x :: l, m => by show ecell x ++ eflat (l ++ m) = _; rw [eflat_append l m, ← List.append_assoc]; rfl
theorem hflat_append : ∀ l m : List Hc, hflat (l ++ m) = hflat l ++ hflat m
  | [], m => rfl
  | x :: l, m => by show hcell x ++ hflat (l ++ m) = _; rw [hflat_append l m, ← List.append_assoc]; rfl
theorem eflat_len : ∀ l : List Ev, (eflat l).length = l.length * 5
  | [] => rfl
  | x :: l => by show (ecell x ++ eflat l).length = _; rw [List.length_append, eflat_len l]; simp; omega
theorem hflat_len : ∀ l : List Hc, (hflat l).length = l.length * 10
  | [] => rfl
  | x :: l => by show (hcell x ++ hflat l).length = _; rw [List.length_append, hflat_len l]; simp; omega
theorem eflat_nth : ∀ (l : List Ev) (k : Nat) (h : k < l.length), ((eflat l).drop (k * 5)).take 5 = ecell l[k]
  | [], k, h => absurd h (Nat.not_lt_zero _)
  | x :: l, 0, _ => by rfl
  | x :: l, k + 1, h => by
    have := eflat_nth l k (by simpa using h)
    show ((ecell x ++ eflat l).drop ((k + 1) * 5)).take 5 = _
    rw [List.drop_append, List.drop_of_length_le (by simp; omega), List.nil_append]
    have e : (k + 1) * 5 - (ecell x).length = k * 5 := by simp; omega
    rw [e, this]
    rfl
theorem hflat_nth : ∀ (l : List Hc) (k : Nat) (h : k < l.length), ((hflat l).drop (k * 10)).take 10 = hcell l[k]
  | [], k, h => absurd h (Nat.not_lt_zero _)
  | x :: l, 0, _ => by rfl
  | x :: l, k + 1, h => by
    have := hflat_nth l k (by simpa using h)
    show ((hcell x ++ hflat l).drop ((k + 1) * 10)).take 10 = _
    rw [List.drop_append, List.drop_of_length_le (by simp; omega), List.nil_append]
    have e : (k + 1) * 10 - (hcell x).length = k * 10 := by simp; omega
    rw [e, this]
    rfl
theorem fl_rng {w : World} {Z : Nat → Prop} {b o : Nat} {cells : List Value} (h : Fl w Z (some ⟨b, o, none⟩) cells) (k n : Nat) : w.rangeAt b (o + k) ((cells.drop k).take n) := fun j u hu => by
  have hj : j < n := by
    have := (List.getElem?_eq_some_iff.1 hu).1
    rw [List.length_take] at this
    omega
  rw [List.getElem?_take_of_lt hj, List.getElem?_drop] at hu
  obtain ⟨b', o', e, _, hc⟩ := h (k + j) u hu
  cases e
  rwa [Nat.add_assoc]
theorem fl_e {w : World} {Z : Nat → Prop} {p : Option Addr} {l : List Ev} (h : Fl w Z p (eflat l)) {k : Nat} (hk : k < l.length) : ∃ b o, p = some ⟨b, o, none⟩ ∧ Z b ∧ w.rangeAt b (o + k * 5) (ecell l[k]) := by
  obtain ⟨bb, off, rfl, hzz, hcc⟩ := h (k * 5) (.bool l[k].ans) (by
    have h1 := eflat_nth l k hk
    have h2 : (((eflat l).drop (k * 5)).take 5)[0]? = some (.bool l[k].ans) := by rw [h1]; rfl
    rw [List.getElem?_take_of_lt (by omega), List.getElem?_drop] at h2
    simpa using h2)
  have hr := fl_rng h (k * 5) 5
  rw [eflat_nth l k hk] at hr
  exact ⟨bb, off, rfl, hzz, hr⟩
theorem fl_h {w : World} {Z : Nat → Prop} {p : Option Addr} {l : List Hc} (h : Fl w Z p (hflat l)) {k : Nat} (hk : k < l.length) : ∃ b o, p = some ⟨b, o, none⟩ ∧ Z b ∧ w.rangeAt b (o + k * 10) (hcell l[k]) := by
  obtain ⟨bb, off, rfl, hzz, hcc⟩ := h (k * 10) (.bool l[k].e.ans) (by
    have h1 := hflat_nth l k hk
    have h2 : (((hflat l).drop (k * 10)).take 10)[0]? = some (.bool l[k].e.ans) := by rw [h1]; rfl
    rw [List.getElem?_take_of_lt (by omega), List.getElem?_drop] at h2
    simpa using h2)
  have hr := fl_rng h (k * 10) 10
  rw [hflat_nth l k hk] at hr
  exact ⟨bb, off, rfl, hzz, hr⟩
theorem rng_cell {w : World} {b o j : Nat} {cs : List Value} {v : Value} (h : w.rangeAt b o cs) (hv : cs[j]? = some v) : w.cell? ⟨b, o + j, none⟩ = some v := h j v hv

theorem nat0 (n : Nat) : ((n : Int) == 0) = decide (n = 0) := by by_cases h : n = 0 <;> simp [h]
/-- who may ask -/
def mayAskP (e : Ev) : Bool := if e.kind == 1 then decide (0 < e.id) else if e.kind == 2 || e.kind == 3 then decide (0 < e.id) && decide (e.b.xs.length = 0) else false
/-- who may hear -/
def mayHearP (c : Hc) (e : Ev) : Bool := if c.told || !e.key.toList.isEmpty then false else if e.kind == 1 && c.e.kind == 2 then true else if decide (0 < e.b.xs.length) then false else if e.kind == 1 || e.kind == 4 || e.kind == 5 then true else if e.kind == 2 then c.e.kind == 1 else if e.kind == 3 then c.e.kind != 1 else false

set_option maxRecDepth 100000 in
set_option maxHeartbeats 1600000 in
theorem mayAsk_ok (e : Ev) (w : World) (h : e.b.ok w) :
    Calls Try.prog 27 #[.agg (ecell e).toArray] w fun r w' => r = .returned (.bool (mayAskP e)) ∧ Kp (fun _ => False) w w' := by
  obtain ⟨⟨p, cap, ev, hr⟩, hn⟩ := h
  obtain ⟨n, hnn⟩ : ∃ n, n = e.b.xs.length := ⟨_, rfl⟩
  have HN : Hid (e.b.xs.length = n) := hnn.symm
  rw [← hnn] at ev hn
  obtain ⟨xa, hxa⟩ : ∃ xa, xa = (ecell e).toArray := ⟨_, rfl⟩
  rw [← hxa]
  have kk : Kp (fun _ => False) w (w.alloc (.cells xa 29)) := (Kp.refl _ _).alloc _
  have c1 : (w.alloc (.cells xa 29)).cell? ⟨w.heap.size, 1, none⟩ = some (.int .i64 e.id) := (Lv.new w xa 29).cell (j := 1) (by rw [hxa]; rfl)
  have c2 : (w.alloc (.cells xa 29)).cell? ⟨w.heap.size, 2, none⟩ = some (.int .i64 e.kind) := (Lv.new w xa 29).cell (j := 2) (by rw [hxa]; rfl)
  have c4 : (w.alloc (.cells xa 29)).cell? ⟨w.heap.size, 4, none⟩ = some (.slice p n cap) := (Lv.new w xa 29).cell (j := 4) (by rw [hxa, ← ev]; rfl)
  clear hxa hr hnn ev
  have HK : Hid (Kp (fun _ => False) w (w.alloc (.cells xa 29))) := kk
  clear kk
  obtain ⟨z, hz⟩ : ∃ z, z = e.id := ⟨_, rfl⟩
  obtain ⟨kd, hkd⟩ : ∃ kd, kd = e.kind := ⟨_, rfl⟩
  unfold mayAskP
  rw [HN.out]
  rw [← hz] at c1 ⊢
  rw [← hkd] at c2 ⊢
  clear hz hkd
  by_cases h1 : kd = 1
  · subst h1
    go_enter Try.func27, Try.ntmps27
    go_wp2
    go_ret
    exact ⟨by simp, HK.out⟩
  · have h1' : (kd == 1) = false := by simpa using h1
    by_cases h2 : kd = 2
    · subst h2
      by_cases h4 : 0 < z
      · have h4' : decide (0 < z) = true := by simpa using h4
        go_enter Try.func27, Try.ntmps27
        go_wp2
        go_ret
        refine ⟨?_, HK.out⟩
        simp [h4, nat0]
      · have h4' : decide (0 < z) = false := by simpa using h4
        go_enter Try.func27, Try.ntmps27
        go_wp2
        go_ret
        refine ⟨?_, HK.out⟩
        simp [h4, nat0]
    · have h2' : (kd == 2) = false := by simpa using h2
      by_cases h3 : kd = 3
      · subst h3
        by_cases h4 : 0 < z
        · have h4' : decide (0 < z) = true := by simpa using h4
          go_enter Try.func27, Try.ntmps27
          go_wp2
          go_ret
          refine ⟨?_, HK.out⟩
          simp [h4, nat0]
        · have h4' : decide (0 < z) = false := by simpa using h4
          go_enter Try.func27, Try.ntmps27
          go_wp2
          go_ret
          refine ⟨?_, HK.out⟩
          simp [h4, nat0]
      · have h3' : (kd == 3) = false := by simpa using h3
        go_enter Try.func27, Try.ntmps27
        go_wp2
        go_ret
        refine ⟨?_, HK.out⟩
        simp [h1, h2, h3]
end Go.Proofs.Ytbbgplnenbkfeaa
