/- The document's calls in memory (laid by scripts/mkvi.py). -/
import Derived.Test.YtbbgplnenbkfeaaVf
namespace Go.Proofs.Ytbbgplnenbkfeaa
set_option linter.unusedVariables false
set_option linter.unusedSimpArgs false
open Go.RowKit Go.Deep Go.Maps

/-- a call of the document's -/
structure Rc where
  (id fr to kind says : Int) (key : ByteArray) (pb g : By)
abbrev rcell (r : Rc) : List Value := [.int .i64 r.fr, .int .i64 r.to, .int .i64 r.kind, .int .i64 r.says, .string r.key, r.pb.v, r.g.v]
structure Rc.ok (w : World) (r : Rc) : Prop where
  p : r.pb.ok w
  g : r.g.ok w
  s : r.key.size ≤ maxLen
  f : 0 ≤ r.fr ∧ r.fr ≤ 1000
  t : -1 ≤ r.to ∧ r.to ≤ 1000
theorem Rc.ok.keep {w w' : World} {x : Rc} (h : x.ok w) (k : Kp (fun _ => False) w w') : x.ok w' := ⟨h.p.keep k, h.g.keep k, h.s, h.f, h.t⟩
def rc0 : Rc := ⟨0, 0, 0, 0, 0, ⟨#[]⟩, by0, by0⟩
theorem Rc.ok.one {w : World} {r : Rc} (h : r.ok w) : ∀ u ∈ rcell r, u.oneCell' = true := by
  intro x hx
  have h1 := h.p.one
  have h2 := h.g.one
  simp only [List.mem_cons, List.not_mem_nil, or_false] at hx
  rcases hx with rfl | rfl | rfl | rfl | rfl | rfl | rfl <;> first | rfl | exact h1 | exact h2
theorem szRc : (Try.prog.info? 51).map (·.size) = some 7 := by kernel_rfl
theorem dsRc : ∃ d, Try.prog.underlying 51 = some d ∧ d.isRow = true := ⟨_, Try.underlying51, rfl⟩
theorem infoRc0 : (Try.prog.info? 51).map (fun i => (i.zero.map (·.cells.size), i.size, i.bytes)) = some (some 7, 7, 96) := by kernel_rfl
theorem infoRc : ∃ i z, Try.prog.info? 51 = some i ∧ i.zero = some z ∧ i.size = 7 ∧ i.bytes = 96 ∧ z.cells.size = 7 := by
  obtain ⟨i, hi, he⟩ := Option.map_eq_some_iff.1 infoRc0
  simp only [Prod.mk.injEq] at he
  obtain ⟨h1, h2, h3⟩ := he
  obtain ⟨z, hz, h4⟩ := Option.map_eq_some_iff.1 h1
  exact ⟨i, z, hi, hz, h2, h3, h4⟩
def rflat : List Rc → List Value
  | [] => []
  | x :: l => rcell x ++ rflat l
theorem rflat_append : ∀ l m : List Rc, rflat (l ++ m) = rflat l ++ rflat m
  | [], m => rfl
  | x :: l, m => by show rcell x ++ rflat (l ++ m) = _; rw [rflat_append l m, ← List.append_assoc]; rfl
theorem rflat_len : ∀ l : List Rc, (rflat l).length = l.length * 7
  | [] => rfl
  | x :: l => by show (rcell x ++ rflat l).length = _; rw [List.length_append, rflat_len l]; simp; omega
theorem rflat_one (c : Rc) : rflat [c] = rcell c := by show rcell c ++ [] = _; rw [List.append_nil]
theorem rflat_get : ∀ (l : List Rc) (k j : Nat) (c : Rc) (v : Value), l[k]? = some c → (rcell c)[j]? = some v → (rflat l)[k * 7 + j]? = some v
  | [], k, j, c, v, h, _ => by simp at h
  | x :: l, 0, j, c, v, h, hv => by
    simp at h
    subst h
    show (rcell x ++ rflat l)[0 * 7 + j]? = _
    have hj : j < 7 := by have := (List.getElem?_eq_some_iff.1 hv).1; simpa using this
    rw [Nat.zero_mul, Nat.zero_add, List.getElem?_append_left (by simpa using hj)]
    exact hv
  | x :: l, k + 1, j, c, v, h, hv => by
    have := rflat_get l k j c v (by simpa using h) hv
    show (rcell x ++ rflat l)[(k + 1) * 7 + j]? = _
    rw [List.getElem?_append_right (by simp; omega)]
    have e : (k + 1) * 7 + j - (rcell x).length = k * 7 + j := by simp; omega
    rw [e]
    exact this
/-- a call of the document's, told -/
def rhear (r : Rc) (e : Ev) (t : Int) : Rc := { r with to := t, says := e.kind, g := e.b }
def rnew (e : Ev) (k : Int) : Rc := ⟨e.id, k, -1, e.kind, 0, e.key, e.b, by0⟩
theorem rflat_set : ∀ (l : List Rc) (k : Nat) (c : Rc) (e : Ev) (t : Int), l[k]? = some c → rflat (l.set k (rhear c e t)) = (((rflat l).set (k * 7 + 1) (.int .i64 t)).set (k * 7 + 3) (.int .i64 e.kind)).set (k * 7 + 6) e.b.v
  | [], k, c, e, t, h => by simp at h
  | x :: l, 0, c, e, t, h => by
    simp at h
    subst h
    show rcell (rhear x e t) ++ rflat l = (((rcell x ++ rflat l).set (0 * 7 + 1) _).set (0 * 7 + 3) _).set (0 * 7 + 6) _
    simp [rhear]
  | x :: l, k + 1, c, e, t, h => by
    have := rflat_set l k c e t (by simpa using h)
    show rcell x ++ rflat (l.set k (rhear c e t)) = (((rcell x ++ rflat l).set ((k + 1) * 7 + 1) _).set ((k + 1) * 7 + 3) _).set ((k + 1) * 7 + 6) _
    rw [this]
    have e9 : ∀ (m : List Value) (j : Nat) (v : Value), (rcell x ++ m).set ((k + 1) * 7 + j) v = rcell x ++ m.set (k * 7 + j) v := fun m j v => by
      rw [List.set_append_right _ _ (by simp; omega)]
      congr 2
      simp; omega
    rw [e9, e9, e9]
/-- a row of the document's calls, of one's own -/
structure Rx (w0 v : World) (a : Value) (rs : List Rc) : Prop where
  o : v.ownsRow w0.heap.size 51 7 a rs.length (rflat rs)
  k : Kp (fun _ => False) w0 v
  c : ∀ y ∈ rs, y.ok w0
theorem Rx.keep {w0 v v' : World} {a : Value} {rs : List Rc} (h : Rx w0 v a rs) (k : Kp (fun _ => False) v v') : Rx w0 v' a rs :=
  ⟨ownsRow_keep h.o k (fun _ _ => id), h.k.trans k (fun _ _ e => e), h.c⟩
theorem Rx.nil (w0 : World) : Rx w0 w0 (.slice none 0 0) [] := ⟨World.ownsRow_nil _ _ _ _, Kp.refl _ _, fun y hy => (by cases hy)⟩
set_option maxRecDepth 100000 in
theorem wpList_app_r {ops : Array Oper} {rest : List Oper} {op : Oper} {a : Act} {Q : Exit → Act → World → Prop} {w0 v : World} {a' : Value} {cs : List Rc} (h : Rx w0 v a' cs) (c : Rc) (hc : c.ok w0) (hz : cs.length ≤ 1000)
    (hgd : op.guard = none) (o1 o2 : Operand) (ho : op.op = .call { callee := .builtin .append, args := #[o1, o2], argTypes := #[44, 44] }) (h1 : a.eval o1 = a') (h2 : a.eval o2 = .slice (some ⟨v.heap.size, 0, none⟩) 1 1)
    (hK : ∀ a2 w3, Rx w0 w3 a2 (cs ++ [c]) → Kp (fun b => a'.ownBlock = some b) v w3 → (∀ b, a2.ownBlock = some b → a'.ownBlock = some b ∨ v.heap.size ≤ b) → wpList Try.prog ops Q rest (a.put op.dst a2) w3) :
    wpList Try.prog ops Q (op :: rest) a (v.alloc (.cells (rcell c).toArray 51)) := by
  obtain ⟨ti, tz, hi1, hi2, hi3, hi4, hi5⟩ := infoRc
  have ka : Kp (fun _ => False) v (v.alloc (.cells (rcell c).toArray 51)) := (Kp.refl _ _).alloc _
  have hr := h.keep ka
  have hlv := Lv.new v (rcell c).toArray 51
  have h1c := hc.one
  have hs0 := h.k.size
  have z1 : (v.alloc (.cells (rcell c).toArray 51)).heap.size = v.heap.size + 1 := by simp
  refine wpList_append_own_src _ hgd o1 o2 44 44 ho w0.heap.size 51 ti tz 7 96 Try.underlying44 hi1 hi2 hi3 hi4 hi5 (by decide) a' cs.length (rflat cs) h1 hr.o _ 1 (rcell c) h2 (Src.ofSlice _ Try.underlying44 ⟨v.heap.size, 0, none⟩ 1 1 (rcell c) rfl (fun j u hj => by rw [Addr.add_mid, Nat.zero_add]; exact hlv.cell hj) h1c) (by unfold maxLen; omega) (by omega) (by omega) ?_
  intro a2 w3 hown hk hblk
  have k3 := grownBy_kp hk
  refine hK a2 w3 ⟨?_, hr.k.app hr.o k3, fun y hy => ?_⟩ ((ka.mono (fun _ _ e => e.elim)).trans k3 (fun _ _ e => e)) (fun b hb => ?_)
  · rw [List.length_append, rflat_append, rflat_one]
    exact hown
  · rcases List.mem_append.1 hy with e | e
    · exact h.c y e
    · rw [List.mem_singleton] at e; subst e; exact hc
  · rcases hblk with e2 | e2
    · exact Or.inl (by rw [← e2]; exact hb)
    · rw [e2] at hb
      have := Option.some.inj hb
      right; omega
/-- the calls' numbers -/
abbrev Ids (w0 v : World) (a : Value) (rs : List Rc) : Prop := v.ownsRow w0.heap.size 3 1 a rs.length (rs.map (fun r => encI r.id))
set_option maxRecDepth 100000 in
theorem wpList_app_id {ops : Array Oper} {rest : List Oper} {op : Oper} {a : Act} {Q : Exit → Act → World → Prop} {B : Nat} {v : World} {a' : Value} {n : Nat} {zs : List Value} (h : v.ownsRow B 3 1 a' n zs) (hB : B ≤ v.heap.size) (z : Int) (hz : n ≤ 1000)
    (hgd : op.guard = none) (o1 o2 : Operand) (ho : op.op = .call { callee := .builtin .append, args := #[o1, o2], argTypes := #[67, 67] }) (h1 : a.eval o1 = a') (h2 : a.eval o2 = .slice (some ⟨v.heap.size, 0, none⟩) 1 1)
    (hK : ∀ a2 w3, w3.ownsRow B 3 1 a2 (n + 1) (zs ++ [encI z]) → Kp (fun b => a'.ownBlock = some b) v w3 → (∀ b, a2.ownBlock = some b → a'.ownBlock = some b ∨ v.heap.size ≤ b) → wpList Try.prog ops Q rest (a.put op.dst a2) w3) :
    wpList Try.prog ops Q (op :: rest) a (v.alloc (.cells #[encI z] 3)) := by
  obtain ⟨ti, hi0, hz0, hz1, hz2⟩ := info_parts infoInt
  have ka : Kp (fun _ => False) v (v.alloc (.cells #[encI z] 3)) := (Kp.refl _ _).alloc _
  have hr := ownsRow_keep h ka (fun _ _ => id)
  have hlv := Lv.new v #[encI z] 3
  have z1 : (v.alloc (.cells #[encI z] 3)).heap.size = v.heap.size + 1 := by simp
  refine wpList_append_own_src _ hgd o1 o2 67 67 ho B 3 ti (.int .i64 0) 1 8 Try.underlying67 hi0 hz0 hz1 hz2 rfl (by decide) a' n zs h1 hr _ 1 [encI z] h2 (Src.ofSlice _ Try.underlying67 ⟨v.heap.size, 0, none⟩ 1 1 [encI z] rfl (fun j u hj => by rw [Addr.add_mid, Nat.zero_add]; exact hlv.cell hj) (fun u hu => by simp at hu; subst hu; rfl)) (by unfold maxLen; omega) (by omega) (by omega) ?_
  intro a2 w3 hown hk hblk
  have k3 := grownBy_kp hk
  refine hK a2 w3 hown ((ka.mono (fun _ _ e => e.elim)).trans k3 (fun _ _ e => e)) (fun b hb => ?_)
  rcases hblk with e2 | e2
  · exact Or.inl (by rw [← e2]; exact hb)
  · rw [e2] at hb
    have := Option.some.inj hb
    right; omega
/-- a call, and the document's of it -/
structure Rl (c : Hc) (r : Rc) : Prop where
  id : r.id = c.e.id
  fr : r.fr = c.fr
  kd : r.kind = c.e.kind
  key : r.key = c.e.key
  pb : r.pb = c.e.b
  n : c.told = false → r.to = -1 ∧ c.says = 0
  y : c.told = true → 0 ≤ r.to ∧ (((r.says = 4 ∨ r.says = 5) ∧ c.says = 0) ∨ ((r.says = 1 ∨ r.says = 2 ∨ r.says = 3) ∧ c.says = r.says ∧ c.to = r.to ∧ c.g = r.g))
theorem Rl.told {c : Hc} {r : Rc} (h : Rl c r) : c.told = decide (0 ≤ r.to) := by
  cases ht : c.told with
  | false => have := (h.n ht).1; rw [this]; rfl
  | true => have := (h.y ht).1; exact (decide_eq_true this).symm
theorem Rl.new (e : Ev) (k : Nat) : Rl (newC e k) (rnew e k) := ⟨rfl, rfl, rfl, rfl, rfl, fun _ => ⟨rfl, rfl⟩, fun h => by cases h⟩
theorem Rl.hear {c : Hc} {r : Rc} (h : Rl c r) (e : Ev) (k : Nat) (hm : mayHearP c e = true) : Rl (hearP c e k) (rhear r e k) := by
  obtain ⟨ht, hk⟩ := mayHear_kind hm
  have h0 := (h.n ht).2
  have he := hearP_e c e (k : Int)
  have hf := hear_fr c e (k : Int)
  refine ⟨by rw [he]; exact h.id, by rw [hf]; exact h.fr, by rw [he]; exact h.kd, by rw [he]; exact h.key, by rw [he]; exact h.pb, fun h9 => ?_, fun _ => ?_⟩
  · exfalso
    unfold hearP at h9
    split at h9 <;> cases h9
  · refine ⟨by show (0 : Int) ≤ (k : Int); omega, ?_⟩
    unfold hearP rhear
    by_cases h4 : e.kind = 4
    · simp [h4, h0]
    · by_cases h5 : e.kind = 5
      · simp [h5, h0]
      · simp [h4, h5]
        omega
structure Rls (cs : List Hc) (rs : List Rc) : Prop where
  l : rs.length = cs.length
  r : ∀ (i : Nat) (c : Hc) (r : Rc), cs[i]? = some c → rs[i]? = some r → Rl c r
theorem Rls.nil : Rls [] [] := ⟨rfl, fun i c r h => by simp at h⟩
theorem Rls.snoc {cs : List Hc} {rs : List Rc} (h : Rls cs rs) {c : Hc} {r : Rc} (hr : Rl c r) : Rls (cs ++ [c]) (rs ++ [r]) := by
  have hl := h.l
  refine ⟨by simp [hl], fun i c' r' h1 h2 => ?_⟩
  rcases Nat.lt_or_ge i cs.length with q | q
  · rw [List.getElem?_append_left q] at h1
    rw [List.getElem?_append_left (by omega)] at h2
    exact h.r i c' r' h1 h2
  · rw [List.getElem?_append_right q] at h1
    rw [List.getElem?_append_right (by omega)] at h2
    obtain ⟨h9, h8⟩ := List.getElem?_eq_some_iff.1 h1
    have h7 : i - cs.length = 0 := by simp at h9; omega
    have h6 : i - rs.length = 0 := by omega
    simp [h7] at h8
    rw [h6] at h2
    simp at h2
    subst h8
    subst h2
    exact hr
theorem Rls.set {cs : List Hc} {rs : List Rc} (h : Rls cs rs) (i : Nat) {c : Hc} {r : Rc} (hr : Rl c r) : Rls (cs.set i c) (rs.set i r) := by
  have hl := h.l
  refine ⟨by simp [hl], fun j c' r' h1 h2 => ?_⟩
  by_cases e : i = j
  · subst e
    have hi : i < cs.length := by have := (List.getElem?_eq_some_iff.1 h1).1; simpa using this
    rw [List.getElem?_set_self hi] at h1
    rw [List.getElem?_set_self (by omega)] at h2
    cases h1; cases h2
    exact hr
  · rw [List.getElem?_set_ne e] at h1
    rw [List.getElem?_set_ne e] at h2
    exact h.r j c' r' h1 h2
/-- no number twice -/
def Dst (cs : List Hc) : Prop := ∀ (i j : Nat) (a b : Hc), cs[i]? = some a → cs[j]? = some b → a.e.id = b.e.id → i = j
theorem Dst.find {cs : List Hc} (h : Dst cs) {i : Nat} {c : Hc} (hi : cs[i]? = some c) : findC cs c.e.id = some i := by
  unfold findC
  have hil := (List.getElem?_eq_some_iff.1 hi).1
  rw [List.findIdx?_eq_some_iff_getElem]
  have hci : cs[i] = c := by rw [List.getElem?_eq_getElem hil] at hi; exact Option.some.inj hi
  refine ⟨hil, by rw [hci]; simp, fun j hj => ?_⟩
  simp
  intro e
  have := h j i _ c (List.getElem?_eq_getElem (by omega)) hi e
  omega
theorem find_none {cs : List Hc} {z : Int} (h : ∀ c ∈ cs, c.e.id ≠ z) : findC cs z = none := by
  unfold findC
  rw [List.findIdx?_eq_none_iff]
  intro c hc
  simpa using h c hc
theorem Dst.snoc {cs : List Hc} (h : Dst cs) {c : Hc} (hn : findC cs c.e.id = none) : Dst (cs ++ [c]) := by
  have hne : ∀ (i : Nat) (a : Hc), cs[i]? = some a → a.e.id ≠ c.e.id := fun i a ha e => by
    unfold findC at hn
    rw [List.findIdx?_eq_none_iff] at hn
    have := hn a (List.mem_of_getElem? ha)
    simp [e] at this
  have at_ : ∀ (x : Nat) (z : Hc), (cs ++ [c])[x]? = some z → (x < cs.length ∧ cs[x]? = some z) ∨ (x = cs.length ∧ z = c) := fun x z hz => by
    rcases Nat.lt_or_ge x cs.length with q | q
    · rw [List.getElem?_append_left q] at hz; exact Or.inl ⟨q, hz⟩
    · rw [List.getElem?_append_right q] at hz
      obtain ⟨h9, h8⟩ := List.getElem?_eq_some_iff.1 hz
      have h7 : x - cs.length = 0 := by simp at h9; omega
      simp [h7] at h8
      exact Or.inr ⟨by omega, h8.symm⟩
  intro i j a b ha hb e
  rcases at_ i a ha with ⟨q1, q2⟩ | ⟨q1, rfl⟩
  · rcases at_ j b hb with ⟨r1, r2⟩ | ⟨r1, rfl⟩
    · exact h i j a b q2 r2 e
    · exact absurd e (hne i a q2)
  · rcases at_ j b hb with ⟨r1, r2⟩ | ⟨r1, rfl⟩
    · exact absurd e.symm (hne j b r2)
    · omega
theorem Dst.set {cs : List Hc} (h : Dst cs) (i : Nat) {c d : Hc} (hi : cs[i]? = some c) (he : d.e = c.e) : Dst (cs.set i d) := by
  have hil := (List.getElem?_eq_some_iff.1 hi).1
  have at_ : ∀ (x : Nat) (z : Hc), (cs.set i d)[x]? = some z → ∃ z', cs[x]? = some z' ∧ z'.e.id = z.e.id := fun x z hz => by
    by_cases e : i = x
    · subst e
      rw [List.getElem?_set_self hil] at hz
      cases hz
      exact ⟨c, hi, by rw [he]⟩
    · rw [List.getElem?_set_ne e] at hz
      exact ⟨z, hz, rfl⟩
  intro x y a b ha hb e
  obtain ⟨a', h1, h2⟩ := at_ x a ha
  obtain ⟨b', h3, h4⟩ := at_ y b hb
  exact h x y a' b' h1 h3 (by omega)
theorem rnew_ok {w : World} {e : Ev} {k : Nat} (he : e.ok w) (hk : k ≤ 1000) : (rnew e k).ok w := ⟨he.b, by0_ok w, he.s, by dsimp [rnew]; omega, by dsimp [rnew]; omega⟩
theorem rhear_ok {w : World} {r : Rc} {e : Ev} {k : Nat} (hr : r.ok w) (he : e.ok w) (hk : k ≤ 1000) : (rhear r e k).ok w := ⟨hr.p, he.b, hr.s, hr.f, by dsimp [rhear]; omega⟩
theorem rs_none {cs : List Hc} {rs : List Rc} (h : Rls cs rs) {n : Nat} (hn : n = rs.length) {z : Int} (hj : ∀ i, i < n → ∀ r, rs[i]? = some r → r.id ≠ z) : findC cs z = none := by
  refine find_none (fun c hc e => ?_)
  obtain ⟨j, hj2⟩ := List.getElem?_of_mem hc
  have hl := (List.getElem?_eq_some_iff.1 hj2).1
  have hl2 : j < rs.length := by rw [h.l]; exact hl
  have := h.r j c _ hj2 (List.getElem?_eq_getElem hl2)
  exact hj j (by omega) _ (List.getElem?_eq_getElem hl2) (by rw [this.id]; exact e)

theorem rc_st13 (g i : Nat) (kd tt : Int) (pb : Option Addr) (nb cb : Nat) (u : Value) (ev : Operand → Value) (z : World) (e1 : ev (.tmp 152) = .pointer (some ⟨g, i * 7 + 1, none⟩)) (e2 : ev (.tmp 146) = .int .i64 tt)  (hc : z.cell? ⟨g, i * 7 + 1, none⟩ = some u) (hf : z.frozen? ⟨g, i * 7 + 1, none⟩ = false) : (execOp ev ⟨none, Op.store 3 (Operand.tmp 152) (Operand.tmp 146), 0, "", #[], none⟩).run Try.prog z = .ok .skip (z.setCell ⟨g, i * 7 + 1, none⟩ (.int .i64 tt)) := by go_simp
theorem rc_st16 (g i : Nat) (kd tt : Int) (pb : Option Addr) (nb cb : Nat) (u : Value) (ev : Operand → Value) (z : World) (e1 : ev (.tmp 154) = .pointer (some ⟨g, i * 7 + 3, none⟩)) (e2 : ev (.tmp 148) = .int .i64 kd)  (hc : z.cell? ⟨g, i * 7 + 3, none⟩ = some u) (hf : z.frozen? ⟨g, i * 7 + 3, none⟩ = false) : (execOp ev ⟨none, Op.store 3 (Operand.tmp 154) (Operand.tmp 148), 0, "", #[], none⟩).run Try.prog z = .ok .skip (z.setCell ⟨g, i * 7 + 3, none⟩ (.int .i64 kd)) := by go_simp
theorem rc_st19 (g i : Nat) (kd tt : Int) (pb : Option Addr) (nb cb : Nat) (u : Value) (ev : Operand → Value) (z : World) (e1 : ev (.tmp 156) = .pointer (some ⟨g, i * 7 + 6, none⟩)) (e2 : ev (.tmp 150) = .slice pb nb cb)  (hc : z.cell? ⟨g, i * 7 + 6, none⟩ = some u) (hf : z.frozen? ⟨g, i * 7 + 6, none⟩ = false) : (execOp ev ⟨none, Op.store 27 (Operand.tmp 156) (Operand.tmp 150), 0, "", #[], none⟩).run Try.prog z = .ok .skip (z.setCell ⟨g, i * 7 + 6, none⟩ (.slice pb nb cb)) := by go_simp
theorem rc_0 (bx g n ca i : Nat) (hi : (i : Int) < (n : Int)) (kd tt : Int) (pb : Option Addr) (nb cb : Nat) (ev : Operand → Value) (z : World) (ec : ∀ c, ev (.const c) = c) (e4 : ev (.tmp 4) = .slice (some ⟨g, 0, none⟩) n ca) (hS : z.cell? ⟨bx, 2, none⟩ = some (.int .i64 kd) ∧ z.cell? ⟨bx, 4, none⟩ = some (.slice pb nb cb)) : (execOp ev ⟨some 140, Op.move (Operand.tmp 4), 44, "", #[], none⟩).run Try.prog z = .ok (.value (.slice (some ⟨g, 0, none⟩) n ca)) z := by
  obtain ⟨s2, s4⟩ := hS
  go_simp
theorem rc_1 (bx g n ca i : Nat) (hi : (i : Int) < (n : Int)) (kd tt : Int) (pb : Option Addr) (nb cb : Nat) (ev : Operand → Value) (z : World) (ec : ∀ c, ev (.const c) = c) (e8 : ev (.tmp 8) = .int .i64 (i : Int)) (hS : z.cell? ⟨bx, 2, none⟩ = some (.int .i64 kd) ∧ z.cell? ⟨bx, 4, none⟩ = some (.slice pb nb cb)) : (execOp ev ⟨some 141, Op.move (Operand.tmp 8), 3, "", #[], none⟩).run Try.prog z = .ok (.value (.int .i64 (i : Int))) z := by
  obtain ⟨s2, s4⟩ := hS
  go_simp
theorem rc_2 (bx g n ca i : Nat) (hi : (i : Int) < (n : Int)) (kd tt : Int) (pb : Option Addr) (nb cb : Nat) (ev : Operand → Value) (z : World) (ec : ∀ c, ev (.const c) = c) (e4 : ev (.tmp 4) = .slice (some ⟨g, 0, none⟩) n ca) (hS : z.cell? ⟨bx, 2, none⟩ = some (.int .i64 kd) ∧ z.cell? ⟨bx, 4, none⟩ = some (.slice pb nb cb)) : (execOp ev ⟨some 142, Op.move (Operand.tmp 4), 44, "", #[], none⟩).run Try.prog z = .ok (.value (.slice (some ⟨g, 0, none⟩) n ca)) z := by
  obtain ⟨s2, s4⟩ := hS
  go_simp
theorem rc_3 (bx g n ca i : Nat) (hi : (i : Int) < (n : Int)) (kd tt : Int) (pb : Option Addr) (nb cb : Nat) (ev : Operand → Value) (z : World) (ec : ∀ c, ev (.const c) = c) (e8 : ev (.tmp 8) = .int .i64 (i : Int)) (hS : z.cell? ⟨bx, 2, none⟩ = some (.int .i64 kd) ∧ z.cell? ⟨bx, 4, none⟩ = some (.slice pb nb cb)) : (execOp ev ⟨some 143, Op.move (Operand.tmp 8), 3, "", #[], none⟩).run Try.prog z = .ok (.value (.int .i64 (i : Int))) z := by
  obtain ⟨s2, s4⟩ := hS
  go_simp
theorem rc_4 (bx g n ca i : Nat) (hi : (i : Int) < (n : Int)) (kd tt : Int) (pb : Option Addr) (nb cb : Nat) (ev : Operand → Value) (z : World) (ec : ∀ c, ev (.const c) = c) (e4 : ev (.tmp 4) = .slice (some ⟨g, 0, none⟩) n ca) (hS : z.cell? ⟨bx, 2, none⟩ = some (.int .i64 kd) ∧ z.cell? ⟨bx, 4, none⟩ = some (.slice pb nb cb)) : (execOp ev ⟨some 144, Op.move (Operand.tmp 4), 44, "", #[], none⟩).run Try.prog z = .ok (.value (.slice (some ⟨g, 0, none⟩) n ca)) z := by
  obtain ⟨s2, s4⟩ := hS
  go_simp
theorem rc_5 (bx g n ca i : Nat) (hi : (i : Int) < (n : Int)) (kd tt : Int) (pb : Option Addr) (nb cb : Nat) (ev : Operand → Value) (z : World) (ec : ∀ c, ev (.const c) = c) (e8 : ev (.tmp 8) = .int .i64 (i : Int)) (hS : z.cell? ⟨bx, 2, none⟩ = some (.int .i64 kd) ∧ z.cell? ⟨bx, 4, none⟩ = some (.slice pb nb cb)) : (execOp ev ⟨some 145, Op.move (Operand.tmp 8), 3, "", #[], none⟩).run Try.prog z = .ok (.value (.int .i64 (i : Int))) z := by
  obtain ⟨s2, s4⟩ := hS
  go_simp
theorem rc_6 (bx g n ca i : Nat) (hi : (i : Int) < (n : Int)) (kd tt : Int) (pb : Option Addr) (nb cb : Nat) (ev : Operand → Value) (z : World) (ec : ∀ c, ev (.const c) = c) (e6 : ev (.tmp 6) = .int .i64 tt) (hS : z.cell? ⟨bx, 2, none⟩ = some (.int .i64 kd) ∧ z.cell? ⟨bx, 4, none⟩ = some (.slice pb nb cb)) : (execOp ev ⟨some 146, Op.move (Operand.tmp 6), 3, "", #[], none⟩).run Try.prog z = .ok (.value (.int .i64 tt)) z := by
  obtain ⟨s2, s4⟩ := hS
  go_simp
theorem rc_7 (bx g n ca i : Nat) (hi : (i : Int) < (n : Int)) (kd tt : Int) (pb : Option Addr) (nb cb : Nat) (ev : Operand → Value) (z : World) (ec : ∀ c, ev (.const c) = c) (e7 : ev (.tmp 7) = .pointer (some ⟨bx, 0, none⟩)) (hS : z.cell? ⟨bx, 2, none⟩ = some (.int .i64 kd) ∧ z.cell? ⟨bx, 4, none⟩ = some (.slice pb nb cb)) : (execOp ev ⟨some 147, Op.fieldAddr 29 (Operand.tmp 7) 2, 0, "", #[], none⟩).run Try.prog z = .ok (.value (.pointer (some ⟨bx, 2, none⟩))) z := by
  obtain ⟨s2, s4⟩ := hS
  go_simp
theorem rc_8 (bx g n ca i : Nat) (hi : (i : Int) < (n : Int)) (kd tt : Int) (pb : Option Addr) (nb cb : Nat) (ev : Operand → Value) (z : World) (ec : ∀ c, ev (.const c) = c) (e147 : ev (.tmp 147) = .pointer (some ⟨bx, 2, none⟩)) (hS : z.cell? ⟨bx, 2, none⟩ = some (.int .i64 kd) ∧ z.cell? ⟨bx, 4, none⟩ = some (.slice pb nb cb)) : (execOp ev ⟨some 148, Op.load 3 (Operand.tmp 147), 3, "", #[], none⟩).run Try.prog z = .ok (.value (.int .i64 kd)) z := by
  obtain ⟨s2, s4⟩ := hS
  go_simp
theorem rc_9 (bx g n ca i : Nat) (hi : (i : Int) < (n : Int)) (kd tt : Int) (pb : Option Addr) (nb cb : Nat) (ev : Operand → Value) (z : World) (ec : ∀ c, ev (.const c) = c) (e7 : ev (.tmp 7) = .pointer (some ⟨bx, 0, none⟩)) (hS : z.cell? ⟨bx, 2, none⟩ = some (.int .i64 kd) ∧ z.cell? ⟨bx, 4, none⟩ = some (.slice pb nb cb)) : (execOp ev ⟨some 149, Op.fieldAddr 29 (Operand.tmp 7) 4, 0, "", #[], none⟩).run Try.prog z = .ok (.value (.pointer (some ⟨bx, 4, none⟩))) z := by
  obtain ⟨s2, s4⟩ := hS
  go_simp
theorem rc_10 (bx g n ca i : Nat) (hi : (i : Int) < (n : Int)) (kd tt : Int) (pb : Option Addr) (nb cb : Nat) (ev : Operand → Value) (z : World) (ec : ∀ c, ev (.const c) = c) (e149 : ev (.tmp 149) = .pointer (some ⟨bx, 4, none⟩)) (hS : z.cell? ⟨bx, 2, none⟩ = some (.int .i64 kd) ∧ z.cell? ⟨bx, 4, none⟩ = some (.slice pb nb cb)) : (execOp ev ⟨some 150, Op.load 27 (Operand.tmp 149), 27, "", #[], none⟩).run Try.prog z = .ok (.value (.slice pb nb cb)) z := by
  obtain ⟨s2, s4⟩ := hS
  go_simp
theorem rc_11 (bx g n ca i : Nat) (hi : (i : Int) < (n : Int)) (kd tt : Int) (pb : Option Addr) (nb cb : Nat) (ev : Operand → Value) (z : World) (ec : ∀ c, ev (.const c) = c) (e140 : ev (.tmp 140) = .slice (some ⟨g, 0, none⟩) n ca) (e141 : ev (.tmp 141) = .int .i64 (i : Int)) (hS : z.cell? ⟨bx, 2, none⟩ = some (.int .i64 kd) ∧ z.cell? ⟨bx, 4, none⟩ = some (.slice pb nb cb)) : (execOp ev ⟨some 151, Op.indexAddr 44 (Operand.tmp 140) (Operand.tmp 141), 0, "", #[], none⟩).run Try.prog z = .ok (.value (.pointer (some ⟨g, i * 7, none⟩))) z := by
  clear hS
  go_simp
theorem rc_12 (bx g n ca i : Nat) (hi : (i : Int) < (n : Int)) (kd tt : Int) (pb : Option Addr) (nb cb : Nat) (ev : Operand → Value) (z : World) (ec : ∀ c, ev (.const c) = c) (e151 : ev (.tmp 151) = .pointer (some ⟨g, i * 7, none⟩)) (hS : z.cell? ⟨bx, 2, none⟩ = some (.int .i64 kd) ∧ z.cell? ⟨bx, 4, none⟩ = some (.slice pb nb cb)) : (execOp ev ⟨some 152, Op.fieldAddr 51 (Operand.tmp 151) 1, 0, "", #[], none⟩).run Try.prog z = .ok (.value (.pointer (some ⟨g, i * 7 + 1, none⟩))) z := by
  obtain ⟨s2, s4⟩ := hS
  go_simp
theorem rc_14 (bx g n ca i : Nat) (hi : (i : Int) < (n : Int)) (kd tt : Int) (pb : Option Addr) (nb cb : Nat) (ev : Operand → Value) (z : World) (ec : ∀ c, ev (.const c) = c) (e142 : ev (.tmp 142) = .slice (some ⟨g, 0, none⟩) n ca) (e143 : ev (.tmp 143) = .int .i64 (i : Int)) (hS : z.cell? ⟨bx, 2, none⟩ = some (.int .i64 kd) ∧ z.cell? ⟨bx, 4, none⟩ = some (.slice pb nb cb)) : (execOp ev ⟨some 153, Op.indexAddr 44 (Operand.tmp 142) (Operand.tmp 143), 0, "", #[], none⟩).run Try.prog z = .ok (.value (.pointer (some ⟨g, i * 7, none⟩))) z := by
  clear hS
  go_simp
theorem rc_15 (bx g n ca i : Nat) (hi : (i : Int) < (n : Int)) (kd tt : Int) (pb : Option Addr) (nb cb : Nat) (ev : Operand → Value) (z : World) (ec : ∀ c, ev (.const c) = c) (e153 : ev (.tmp 153) = .pointer (some ⟨g, i * 7, none⟩)) (hS : z.cell? ⟨bx, 2, none⟩ = some (.int .i64 kd) ∧ z.cell? ⟨bx, 4, none⟩ = some (.slice pb nb cb)) : (execOp ev ⟨some 154, Op.fieldAddr 51 (Operand.tmp 153) 3, 0, "", #[], none⟩).run Try.prog z = .ok (.value (.pointer (some ⟨g, i * 7 + 3, none⟩))) z := by
  obtain ⟨s2, s4⟩ := hS
  go_simp
theorem rc_17 (bx g n ca i : Nat) (hi : (i : Int) < (n : Int)) (kd tt : Int) (pb : Option Addr) (nb cb : Nat) (ev : Operand → Value) (z : World) (ec : ∀ c, ev (.const c) = c) (e144 : ev (.tmp 144) = .slice (some ⟨g, 0, none⟩) n ca) (e145 : ev (.tmp 145) = .int .i64 (i : Int)) (hS : z.cell? ⟨bx, 2, none⟩ = some (.int .i64 kd) ∧ z.cell? ⟨bx, 4, none⟩ = some (.slice pb nb cb)) : (execOp ev ⟨some 155, Op.indexAddr 44 (Operand.tmp 144) (Operand.tmp 145), 0, "", #[], none⟩).run Try.prog z = .ok (.value (.pointer (some ⟨g, i * 7, none⟩))) z := by
  clear hS
  go_simp
theorem rc_18 (bx g n ca i : Nat) (hi : (i : Int) < (n : Int)) (kd tt : Int) (pb : Option Addr) (nb cb : Nat) (ev : Operand → Value) (z : World) (ec : ∀ c, ev (.const c) = c) (e155 : ev (.tmp 155) = .pointer (some ⟨g, i * 7, none⟩)) (hS : z.cell? ⟨bx, 2, none⟩ = some (.int .i64 kd) ∧ z.cell? ⟨bx, 4, none⟩ = some (.slice pb nb cb)) : (execOp ev ⟨some 156, Op.fieldAddr 51 (Operand.tmp 155) 6, 0, "", #[], none⟩).run Try.prog z = .ok (.value (.pointer (some ⟨g, i * 7 + 6, none⟩))) z := by
  obtain ⟨s2, s4⟩ := hS
  go_simp
structure rcR (ops : Array Oper) : Prop where
  size : ops.size = 20
  sel : Region.noSelect ops = true
  o0 : (ops[0]?).map bare = some ⟨some 140, Op.move (Operand.tmp 4), 44, "", #[], none⟩
  o1 : (ops[1]?).map bare = some ⟨some 141, Op.move (Operand.tmp 8), 3, "", #[], none⟩
  o2 : (ops[2]?).map bare = some ⟨some 142, Op.move (Operand.tmp 4), 44, "", #[], none⟩
  o3 : (ops[3]?).map bare = some ⟨some 143, Op.move (Operand.tmp 8), 3, "", #[], none⟩
  o4 : (ops[4]?).map bare = some ⟨some 144, Op.move (Operand.tmp 4), 44, "", #[], none⟩
  o5 : (ops[5]?).map bare = some ⟨some 145, Op.move (Operand.tmp 8), 3, "", #[], none⟩
  o6 : (ops[6]?).map bare = some ⟨some 146, Op.move (Operand.tmp 6), 3, "", #[], none⟩
  o7 : (ops[7]?).map bare = some ⟨some 147, Op.fieldAddr 29 (Operand.tmp 7) 2, 0, "", #[], none⟩
  o8 : (ops[8]?).map bare = some ⟨some 148, Op.load 3 (Operand.tmp 147), 3, "", #[], none⟩
  o9 : (ops[9]?).map bare = some ⟨some 149, Op.fieldAddr 29 (Operand.tmp 7) 4, 0, "", #[], none⟩
  o10 : (ops[10]?).map bare = some ⟨some 150, Op.load 27 (Operand.tmp 149), 27, "", #[], none⟩
  o11 : (ops[11]?).map bare = some ⟨some 151, Op.indexAddr 44 (Operand.tmp 140) (Operand.tmp 141), 0, "", #[], none⟩
  o12 : (ops[12]?).map bare = some ⟨some 152, Op.fieldAddr 51 (Operand.tmp 151) 1, 0, "", #[], none⟩
  o13 : (ops[13]?).map bare = some ⟨none, Op.store 3 (Operand.tmp 152) (Operand.tmp 146), 0, "", #[], none⟩
  o14 : (ops[14]?).map bare = some ⟨some 153, Op.indexAddr 44 (Operand.tmp 142) (Operand.tmp 143), 0, "", #[], none⟩
  o15 : (ops[15]?).map bare = some ⟨some 154, Op.fieldAddr 51 (Operand.tmp 153) 3, 0, "", #[], none⟩
  o16 : (ops[16]?).map bare = some ⟨none, Op.store 3 (Operand.tmp 154) (Operand.tmp 148), 0, "", #[], none⟩
  o17 : (ops[17]?).map bare = some ⟨some 155, Op.indexAddr 44 (Operand.tmp 144) (Operand.tmp 145), 0, "", #[], none⟩
  o18 : (ops[18]?).map bare = some ⟨some 156, Op.fieldAddr 51 (Operand.tmp 155) 6, 0, "", #[], none⟩
  o19 : (ops[19]?).map bare = some ⟨none, Op.store 27 (Operand.tmp 156) (Operand.tmp 150), 0, "", #[], none⟩
  may0 : takeB .any ops [0, 1, 2, 3, 4, 5, 6, 7, 8, 9, 10, 11, 12] (Array.replicate 20 false) = true
  r13 : Region.ready .any ops (mark [0, 1, 2, 3, 4, 5, 6, 7, 8, 9, 10, 11, 12] (Array.replicate 20 false)) = [13]
  may1 : takeB .any ops [14, 15] ((mark [0, 1, 2, 3, 4, 5, 6, 7, 8, 9, 10, 11, 12] (Array.replicate 20 false)).setIfInBounds 13 true) = true
  r16 : Region.ready .any ops (mark [14, 15] ((mark [0, 1, 2, 3, 4, 5, 6, 7, 8, 9, 10, 11, 12] (Array.replicate 20 false)).setIfInBounds 13 true)) = [16]
  may2 : takeB .any ops [17, 18] ((mark [14, 15] ((mark [0, 1, 2, 3, 4, 5, 6, 7, 8, 9, 10, 11, 12] (Array.replicate 20 false)).setIfInBounds 13 true)).setIfInBounds 16 true) = true
  r19 : Region.ready .any ops (mark [17, 18] ((mark [14, 15] ((mark [0, 1, 2, 3, 4, 5, 6, 7, 8, 9, 10, 11, 12] (Array.replicate 20 false)).setIfInBounds 13 true)).setIfInBounds 16 true)) = [19]
  fin : Region.ready .any ops ((mark [17, 18] ((mark [14, 15] ((mark [0, 1, 2, 3, 4, 5, 6, 7, 8, 9, 10, 11, 12] (Array.replicate 20 false)).setIfInBounds 13 true)).setIfInBounds 16 true)).setIfInBounds 19 true) = []

set_option maxRecDepth 100000 in
set_option maxHeartbeats 3200000 in
theorem rc_region {ops : Array Oper} {id : Nat} {Q : Exit → Act → World → Prop} {a : Act} {y : World} (R : rcR ops) (bx g n ca i : Nat) (hi : (i : Int) < (n : Int)) (kd tt : Int) (pb : Option Addr) (nb cb : Nat)
    (hQ : ∀ d v c a w, Q (.panic c) (a.put d v) w → Q (.panic c) a w) (hsz : a.tmps.size = 159) (e4 : a.eval (.tmp 4) = .slice (some ⟨g, 0, none⟩) n ca) (e6 : a.eval (.tmp 6) = .int .i64 tt) (e7 : a.eval (.tmp 7) = .pointer (some ⟨bx, 0, none⟩)) (e8 : a.eval (.tmp 8) = .int .i64 (i : Int)) (hS0 : y.drew.cell? ⟨bx, 2, none⟩ = some (.int .i64 kd) ∧ y.drew.cell? ⟨bx, 4, none⟩ = some (.slice pb nb cb)) (hS1 : (y.drew.setCell ⟨g, i * 7 + 1, none⟩ (.int .i64 tt)).cell? ⟨bx, 2, none⟩ = some (.int .i64 kd) ∧ (y.drew.setCell ⟨g, i * 7 + 1, none⟩ (.int .i64 tt)).cell? ⟨bx, 4, none⟩ = some (.slice pb nb cb)) (hS2 : ((y.drew.setCell ⟨g, i * 7 + 1, none⟩ (.int .i64 tt)).setCell ⟨g, i * 7 + 3, none⟩ (.int .i64 kd)).cell? ⟨bx, 2, none⟩ = some (.int .i64 kd) ∧ ((y.drew.setCell ⟨g, i * 7 + 1, none⟩ (.int .i64 tt)).setCell ⟨g, i * 7 + 3, none⟩ (.int .i64 kd)).cell? ⟨bx, 4, none⟩ = some (.slice pb nb cb)) (hS3 : (((y.drew.setCell ⟨g, i * 7 + 1, none⟩ (.int .i64 tt)).setCell ⟨g, i * 7 + 3, none⟩ (.int .i64 kd)).setCell ⟨g, i * 7 + 6, none⟩ (.slice pb nb cb)).cell? ⟨bx, 2, none⟩ = some (.int .i64 kd) ∧ (((y.drew.setCell ⟨g, i * 7 + 1, none⟩ (.int .i64 tt)).setCell ⟨g, i * 7 + 3, none⟩ (.int .i64 kd)).setCell ⟨g, i * 7 + 6, none⟩ (.slice pb nb cb)).cell? ⟨bx, 4, none⟩ = some (.slice pb nb cb)) (v6 v8 v9 : Value) (c6 : y.drew.cell? ⟨g, i * 7 + 1, none⟩ = some v6) (f6 : y.drew.frozen? ⟨g, i * 7 + 1, none⟩ = false) (c8 : (y.drew.setCell ⟨g, i * 7 + 1, none⟩ (.int .i64 tt)).cell? ⟨g, i * 7 + 3, none⟩ = some v8) (f8 : (y.drew.setCell ⟨g, i * 7 + 1, none⟩ (.int .i64 tt)).frozen? ⟨g, i * 7 + 3, none⟩ = false) (c9 : ((y.drew.setCell ⟨g, i * 7 + 1, none⟩ (.int .i64 tt)).setCell ⟨g, i * 7 + 3, none⟩ (.int .i64 kd)).cell? ⟨g, i * 7 + 6, none⟩ = some v9) (f9 : ((y.drew.setCell ⟨g, i * 7 + 1, none⟩ (.int .i64 tt)).setCell ⟨g, i * 7 + 3, none⟩ (.int .i64 kd)).frozen? ⟨g, i * 7 + 6, none⟩ = false)
    (hK :  Q .normal (((((((((((((((((a.put (some 140) (.slice (some ⟨g, 0, none⟩) n ca)).put (some 141) (.int .i64 (i : Int))).put (some 142) (.slice (some ⟨g, 0, none⟩) n ca)).put (some 143) (.int .i64 (i : Int))).put (some 144) (.slice (some ⟨g, 0, none⟩) n ca)).put (some 145) (.int .i64 (i : Int))).put (some 146) (.int .i64 tt)).put (some 147) (.pointer (some ⟨bx, 2, none⟩))).put (some 148) (.int .i64 kd)).put (some 149) (.pointer (some ⟨bx, 4, none⟩))).put (some 150) (.slice pb nb cb)).put (some 151) (.pointer (some ⟨g, i * 7, none⟩))).put (some 152) (.pointer (some ⟨g, i * 7 + 1, none⟩))).put (some 153) (.pointer (some ⟨g, i * 7, none⟩))).put (some 154) (.pointer (some ⟨g, i * 7 + 3, none⟩))).put (some 155) (.pointer (some ⟨g, i * 7, none⟩))).put (some 156) (.pointer (some ⟨g, i * 7 + 6, none⟩))) (((y.drew.setCell ⟨g, i * 7 + 1, none⟩ (.int .i64 tt)).setCell ⟨g, i * 7 + 3, none⟩ (.int .i64 kd)).setCell ⟨g, i * 7 + 6, none⟩ (.slice pb nb cb))) : (Code.region id ops true).wp Try.prog Q a y := by
  have HR : Hid (rcR ops) := R
  have hdf : a.defers = a.defers := rfl
  refine wp_region_held_drew (S := (fun z : World => z.cell? ⟨bx, 2, none⟩ = some (.int .i64 kd) ∧ z.cell? ⟨bx, 4, none⟩ = some (.slice pb nb cb))) (by kernel_rfl) (hS0) (fun hHeld => ?_)
  rw [R.size]
  clear R
  refine wpAnyH_takes HR.out.sel hQ hHeld [0, 1, 2, 3, 4, 5, 6, 7, 8, 9, 10, 11, 12] 7 _ _ HR.out.may0 ?_
  refine wpTake_stepE ⟨some 140, Op.move (Operand.tmp 4), 44, "", #[], none⟩ 140 (.slice (some ⟨g, 0, none⟩) n ca) HR.out.o0 rfl (by rw [hsz]; decide) (wanted_none rfl) (fun z hS => rc_0 bx g n ca i hi kd tt pb nb cb _ z (fun _ => rfl) e4 hS) ?_
  intro a1 ha1 s1 f1 n1 k1
  replace hsz := s1.trans hsz
  replace hdf := f1.trans hdf
  replace e4 := (k1 4 (by decide)).trans e4
  replace e6 := (k1 6 (by decide)).trans e6
  replace e7 := (k1 7 (by decide)).trans e7
  replace e8 := (k1 8 (by decide)).trans e8
  have e140 := n1
  clear s1 f1 n1 k1
  refine wpTake_stepE ⟨some 141, Op.move (Operand.tmp 8), 3, "", #[], none⟩ 141 (.int .i64 (i : Int)) HR.out.o1 rfl (by rw [hsz]; decide) (wanted_none rfl) (fun z hS => rc_1 bx g n ca i hi kd tt pb nb cb _ z (fun _ => rfl) e8 hS) ?_
  intro a2 ha2 s1 f1 n1 k1
  replace hsz := s1.trans hsz
  replace hdf := f1.trans hdf
  replace e4 := (k1 4 (by decide)).trans e4
  replace e6 := (k1 6 (by decide)).trans e6
  replace e7 := (k1 7 (by decide)).trans e7
  replace e8 := (k1 8 (by decide)).trans e8
  replace e140 := (k1 140 (by decide)).trans e140
  have e141 := n1
  clear s1 f1 n1 k1
  refine wpTake_stepE ⟨some 142, Op.move (Operand.tmp 4), 44, "", #[], none⟩ 142 (.slice (some ⟨g, 0, none⟩) n ca) HR.out.o2 rfl (by rw [hsz]; decide) (wanted_none rfl) (fun z hS => rc_2 bx g n ca i hi kd tt pb nb cb _ z (fun _ => rfl) e4 hS) ?_
  intro a3 ha3 s1 f1 n1 k1
  replace hsz := s1.trans hsz
  replace hdf := f1.trans hdf
  replace e4 := (k1 4 (by decide)).trans e4
  replace e6 := (k1 6 (by decide)).trans e6
  replace e7 := (k1 7 (by decide)).trans e7
  replace e8 := (k1 8 (by decide)).trans e8
  replace e140 := (k1 140 (by decide)).trans e140
  replace e141 := (k1 141 (by decide)).trans e141
  have e142 := n1
  clear s1 f1 n1 k1
  refine wpTake_stepE ⟨some 143, Op.move (Operand.tmp 8), 3, "", #[], none⟩ 143 (.int .i64 (i : Int)) HR.out.o3 rfl (by rw [hsz]; decide) (wanted_none rfl) (fun z hS => rc_3 bx g n ca i hi kd tt pb nb cb _ z (fun _ => rfl) e8 hS) ?_
  intro a4 ha4 s1 f1 n1 k1
  replace hsz := s1.trans hsz
  replace hdf := f1.trans hdf
  replace e4 := (k1 4 (by decide)).trans e4
  replace e6 := (k1 6 (by decide)).trans e6
  replace e7 := (k1 7 (by decide)).trans e7
  replace e8 := (k1 8 (by decide)).trans e8
  replace e140 := (k1 140 (by decide)).trans e140
  replace e141 := (k1 141 (by decide)).trans e141
  replace e142 := (k1 142 (by decide)).trans e142
  have e143 := n1
  clear s1 f1 n1 k1
  refine wpTake_stepE ⟨some 144, Op.move (Operand.tmp 4), 44, "", #[], none⟩ 144 (.slice (some ⟨g, 0, none⟩) n ca) HR.out.o4 rfl (by rw [hsz]; decide) (wanted_none rfl) (fun z hS => rc_4 bx g n ca i hi kd tt pb nb cb _ z (fun _ => rfl) e4 hS) ?_
  intro a5 ha5 s1 f1 n1 k1
  replace hsz := s1.trans hsz
  replace hdf := f1.trans hdf
  replace e6 := (k1 6 (by decide)).trans e6
  replace e7 := (k1 7 (by decide)).trans e7
  replace e8 := (k1 8 (by decide)).trans e8
  replace e140 := (k1 140 (by decide)).trans e140
  replace e141 := (k1 141 (by decide)).trans e141
  replace e142 := (k1 142 (by decide)).trans e142
  replace e143 := (k1 143 (by decide)).trans e143
  have e144 := n1
  clear s1 f1 n1 k1
  refine wpTake_stepE ⟨some 145, Op.move (Operand.tmp 8), 3, "", #[], none⟩ 145 (.int .i64 (i : Int)) HR.out.o5 rfl (by rw [hsz]; decide) (wanted_none rfl) (fun z hS => rc_5 bx g n ca i hi kd tt pb nb cb _ z (fun _ => rfl) e8 hS) ?_
  intro a6 ha6 s1 f1 n1 k1
  replace hsz := s1.trans hsz
  replace hdf := f1.trans hdf
  replace e6 := (k1 6 (by decide)).trans e6
  replace e7 := (k1 7 (by decide)).trans e7
  replace e140 := (k1 140 (by decide)).trans e140
  replace e141 := (k1 141 (by decide)).trans e141
  replace e142 := (k1 142 (by decide)).trans e142
  replace e143 := (k1 143 (by decide)).trans e143
  replace e144 := (k1 144 (by decide)).trans e144
  have e145 := n1
  clear s1 f1 n1 k1
  refine wpTake_stepE ⟨some 146, Op.move (Operand.tmp 6), 3, "", #[], none⟩ 146 (.int .i64 tt) HR.out.o6 rfl (by rw [hsz]; decide) (wanted_none rfl) (fun z hS => rc_6 bx g n ca i hi kd tt pb nb cb _ z (fun _ => rfl) e6 hS) ?_
  intro a7 ha7 s1 f1 n1 k1
  replace hsz := s1.trans hsz
  replace hdf := f1.trans hdf
  replace e7 := (k1 7 (by decide)).trans e7
  replace e140 := (k1 140 (by decide)).trans e140
  replace e141 := (k1 141 (by decide)).trans e141
  replace e142 := (k1 142 (by decide)).trans e142
  replace e143 := (k1 143 (by decide)).trans e143
  replace e144 := (k1 144 (by decide)).trans e144
  replace e145 := (k1 145 (by decide)).trans e145
  have e146 := n1
  clear s1 f1 n1 k1
  refine wpTake_stepE ⟨some 147, Op.fieldAddr 29 (Operand.tmp 7) 2, 0, "", #[], none⟩ 147 (.pointer (some ⟨bx, 2, none⟩)) HR.out.o7 rfl (by rw [hsz]; decide) (wanted_none rfl) (fun z hS => rc_7 bx g n ca i hi kd tt pb nb cb _ z (fun _ => rfl) e7 hS) ?_
  intro a8 ha8 s1 f1 n1 k1
  replace hsz := s1.trans hsz
  replace hdf := f1.trans hdf
  replace e7 := (k1 7 (by decide)).trans e7
  replace e140 := (k1 140 (by decide)).trans e140
  replace e141 := (k1 141 (by decide)).trans e141
  replace e142 := (k1 142 (by decide)).trans e142
  replace e143 := (k1 143 (by decide)).trans e143
  replace e144 := (k1 144 (by decide)).trans e144
  replace e145 := (k1 145 (by decide)).trans e145
  replace e146 := (k1 146 (by decide)).trans e146
  have e147 := n1
  clear s1 f1 n1 k1
  refine wpTake_stepE ⟨some 148, Op.load 3 (Operand.tmp 147), 3, "", #[], none⟩ 148 (.int .i64 kd) HR.out.o8 rfl (by rw [hsz]; decide) (wanted_none rfl) (fun z hS => rc_8 bx g n ca i hi kd tt pb nb cb _ z (fun _ => rfl) e147 hS) ?_
  intro a9 ha9 s1 f1 n1 k1
  replace hsz := s1.trans hsz
  replace hdf := f1.trans hdf
  replace e7 := (k1 7 (by decide)).trans e7
  replace e140 := (k1 140 (by decide)).trans e140
  replace e141 := (k1 141 (by decide)).trans e141
  replace e142 := (k1 142 (by decide)).trans e142
  replace e143 := (k1 143 (by decide)).trans e143
  replace e144 := (k1 144 (by decide)).trans e144
  replace e145 := (k1 145 (by decide)).trans e145
  replace e146 := (k1 146 (by decide)).trans e146
  have e148 := n1
  clear s1 f1 n1 k1
  refine wpTake_stepE ⟨some 149, Op.fieldAddr 29 (Operand.tmp 7) 4, 0, "", #[], none⟩ 149 (.pointer (some ⟨bx, 4, none⟩)) HR.out.o9 rfl (by rw [hsz]; decide) (wanted_none rfl) (fun z hS => rc_9 bx g n ca i hi kd tt pb nb cb _ z (fun _ => rfl) e7 hS) ?_
  intro a10 ha10 s1 f1 n1 k1
  replace hsz := s1.trans hsz
  replace hdf := f1.trans hdf
  replace e140 := (k1 140 (by decide)).trans e140
  replace e141 := (k1 141 (by decide)).trans e141
  replace e142 := (k1 142 (by decide)).trans e142
  replace e143 := (k1 143 (by decide)).trans e143
  replace e144 := (k1 144 (by decide)).trans e144
  replace e145 := (k1 145 (by decide)).trans e145
  replace e146 := (k1 146 (by decide)).trans e146
  replace e148 := (k1 148 (by decide)).trans e148
  have e149 := n1
  clear s1 f1 n1 k1
  refine wpTake_stepE ⟨some 150, Op.load 27 (Operand.tmp 149), 27, "", #[], none⟩ 150 (.slice pb nb cb) HR.out.o10 rfl (by rw [hsz]; decide) (wanted_none rfl) (fun z hS => rc_10 bx g n ca i hi kd tt pb nb cb _ z (fun _ => rfl) e149 hS) ?_
  intro a11 ha11 s1 f1 n1 k1
  replace hsz := s1.trans hsz
  replace hdf := f1.trans hdf
  replace e140 := (k1 140 (by decide)).trans e140
  replace e141 := (k1 141 (by decide)).trans e141
  replace e142 := (k1 142 (by decide)).trans e142
  replace e143 := (k1 143 (by decide)).trans e143
  replace e144 := (k1 144 (by decide)).trans e144
  replace e145 := (k1 145 (by decide)).trans e145
  replace e146 := (k1 146 (by decide)).trans e146
  replace e148 := (k1 148 (by decide)).trans e148
  have e150 := n1
  clear s1 f1 n1 k1
  refine wpTake_stepE ⟨some 151, Op.indexAddr 44 (Operand.tmp 140) (Operand.tmp 141), 0, "", #[], none⟩ 151 (.pointer (some ⟨g, i * 7, none⟩)) HR.out.o11 rfl (by rw [hsz]; decide) (wanted_none rfl) (fun z hS => rc_11 bx g n ca i hi kd tt pb nb cb _ z (fun _ => rfl) e140 e141 hS) ?_
  intro a12 ha12 s1 f1 n1 k1
  replace hsz := s1.trans hsz
  replace hdf := f1.trans hdf
  replace e142 := (k1 142 (by decide)).trans e142
  replace e143 := (k1 143 (by decide)).trans e143
  replace e144 := (k1 144 (by decide)).trans e144
  replace e145 := (k1 145 (by decide)).trans e145
  replace e146 := (k1 146 (by decide)).trans e146
  replace e148 := (k1 148 (by decide)).trans e148
  replace e150 := (k1 150 (by decide)).trans e150
  have e151 := n1
  clear s1 f1 n1 k1
  refine wpTake_stepE ⟨some 152, Op.fieldAddr 51 (Operand.tmp 151) 1, 0, "", #[], none⟩ 152 (.pointer (some ⟨g, i * 7 + 1, none⟩)) HR.out.o12 rfl (by rw [hsz]; decide) (wanted_none rfl) (fun z hS => rc_12 bx g n ca i hi kd tt pb nb cb _ z (fun _ => rfl) e151 hS) ?_
  intro a13 ha13 s1 f1 n1 k1
  replace hsz := s1.trans hsz
  replace hdf := f1.trans hdf
  replace e142 := (k1 142 (by decide)).trans e142
  replace e143 := (k1 143 (by decide)).trans e143
  replace e144 := (k1 144 (by decide)).trans e144
  replace e145 := (k1 145 (by decide)).trans e145
  replace e146 := (k1 146 (by decide)).trans e146
  replace e148 := (k1 148 (by decide)).trans e148
  replace e150 := (k1 150 (by decide)).trans e150
  have e152 := n1
  clear s1 f1 n1 k1
  refine wpTake_nil ?_
  refine wpAnyH_skip ⟨none, Op.store 3 (Operand.tmp 152) (Operand.tmp 146), 0, "", #[], none⟩ (y.drew.setCell ⟨g, i * 7 + 1, none⟩ (.int .i64 tt)) HR.out.r13 HR.out.o13 rfl rfl (rc_st13 g i kd tt pb nb cb v6 _ _ e152 e146 c6 f6) (hS1) ?_
  replace hHeld := hS1
  refine wpAnyH_takes HR.out.sel hQ hHeld [14, 15] 4 _ _ HR.out.may1 ?_
  refine wpTake_stepE ⟨some 153, Op.indexAddr 44 (Operand.tmp 142) (Operand.tmp 143), 0, "", #[], none⟩ 153 (.pointer (some ⟨g, i * 7, none⟩)) HR.out.o14 rfl (by rw [hsz]; decide) (wanted_none rfl) (fun z hS => rc_14 bx g n ca i hi kd tt pb nb cb _ z (fun _ => rfl) e142 e143 hS) ?_
  intro a14 ha14 s1 f1 n1 k1
  replace hsz := s1.trans hsz
  replace hdf := f1.trans hdf
  replace e144 := (k1 144 (by decide)).trans e144
  replace e145 := (k1 145 (by decide)).trans e145
  replace e148 := (k1 148 (by decide)).trans e148
  replace e150 := (k1 150 (by decide)).trans e150
  have e153 := n1
  clear s1 f1 n1 k1
  refine wpTake_stepE ⟨some 154, Op.fieldAddr 51 (Operand.tmp 153) 3, 0, "", #[], none⟩ 154 (.pointer (some ⟨g, i * 7 + 3, none⟩)) HR.out.o15 rfl (by rw [hsz]; decide) (wanted_none rfl) (fun z hS => rc_15 bx g n ca i hi kd tt pb nb cb _ z (fun _ => rfl) e153 hS) ?_
  intro a15 ha15 s1 f1 n1 k1
  replace hsz := s1.trans hsz
  replace hdf := f1.trans hdf
  replace e144 := (k1 144 (by decide)).trans e144
  replace e145 := (k1 145 (by decide)).trans e145
  replace e148 := (k1 148 (by decide)).trans e148
  replace e150 := (k1 150 (by decide)).trans e150
  have e154 := n1
  clear s1 f1 n1 k1
  refine wpTake_nil ?_
  refine wpAnyH_skip ⟨none, Op.store 3 (Operand.tmp 154) (Operand.tmp 148), 0, "", #[], none⟩ ((y.drew.setCell ⟨g, i * 7 + 1, none⟩ (.int .i64 tt)).setCell ⟨g, i * 7 + 3, none⟩ (.int .i64 kd)) HR.out.r16 HR.out.o16 rfl rfl (rc_st16 g i kd tt pb nb cb v8 _ _ e154 e148 c8 f8) (hS2) ?_
  replace hHeld := hS2
  refine wpAnyH_takes HR.out.sel hQ hHeld [17, 18] 1 _ _ HR.out.may2 ?_
  refine wpTake_stepE ⟨some 155, Op.indexAddr 44 (Operand.tmp 144) (Operand.tmp 145), 0, "", #[], none⟩ 155 (.pointer (some ⟨g, i * 7, none⟩)) HR.out.o17 rfl (by rw [hsz]; decide) (wanted_none rfl) (fun z hS => rc_17 bx g n ca i hi kd tt pb nb cb _ z (fun _ => rfl) e144 e145 hS) ?_
  intro a16 ha16 s1 f1 n1 k1
  replace hsz := s1.trans hsz
  replace hdf := f1.trans hdf
  replace e150 := (k1 150 (by decide)).trans e150
  have e155 := n1
  clear s1 f1 n1 k1
  refine wpTake_stepE ⟨some 156, Op.fieldAddr 51 (Operand.tmp 155) 6, 0, "", #[], none⟩ 156 (.pointer (some ⟨g, i * 7 + 6, none⟩)) HR.out.o18 rfl (by rw [hsz]; decide) (wanted_none rfl) (fun z hS => rc_18 bx g n ca i hi kd tt pb nb cb _ z (fun _ => rfl) e155 hS) ?_
  intro a17 ha17 s1 f1 n1 k1
  replace hsz := s1.trans hsz
  replace hdf := f1.trans hdf
  replace e150 := (k1 150 (by decide)).trans e150
  have e156 := n1
  clear s1 f1 n1 k1
  refine wpTake_nil ?_
  refine wpAnyH_skip ⟨none, Op.store 27 (Operand.tmp 156) (Operand.tmp 150), 0, "", #[], none⟩ (((y.drew.setCell ⟨g, i * 7 + 1, none⟩ (.int .i64 tt)).setCell ⟨g, i * 7 + 3, none⟩ (.int .i64 kd)).setCell ⟨g, i * 7 + 6, none⟩ (.slice pb nb cb)) HR.out.r19 HR.out.o19 rfl rfl (rc_st19 g i kd tt pb nb cb v9 _ _ e156 e150 c9 f9) (hS3) ?_
  replace hHeld := hS3
  refine wpAnyH_done HR.out.fin ?_ _
  rw [ha17, ha16, ha15, ha14, ha13, ha12, ha11, ha10, ha9, ha8, ha7, ha6, ha5, ha4, ha3, ha2, ha1]
  exact hK
-- R: ⟨by kernel_rfl, by kernel_rfl, by kernel_rfl, by kernel_rfl, by kernel_rfl, by kernel_rfl, by kernel_rfl, by kernel_rfl, by kernel_rfl, by kernel_rfl, by kernel_rfl, by kernel_rfl, by kernel_rfl, by kernel_rfl, by kernel_rfl, by kernel_rfl, by kernel_rfl, by kernel_rfl, by kernel_rfl, by kernel_rfl, by kernel_rfl, by kernel_rfl, by kernel_rfl, by kernel_rfl, by kernel_rfl, by kernel_rfl, by kernel_rfl, by kernel_rfl, by kernel_rfl⟩

end Go.Proofs.Ytbbgplnenbkfeaa
