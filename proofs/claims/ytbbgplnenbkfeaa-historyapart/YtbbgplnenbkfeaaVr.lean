/- The maps of HistoryApart (laid by scripts/mkvr.py). -/
import Derived.Test.YtbbgplnenbkfeaaVq
import Derived.Test.YtbbgplnenbkfeaaVc
namespace Go.Proofs.Ytbbgplnenbkfeaa
set_option linter.unusedVariables false
set_option linter.unusedSimpArgs false
open Go.RowKit Go.Deep Go.Maps

theorem uAp : Try.prog.underlying 32 = some (.map 9 22) := Try.underlying32
theorem zAp (w : World) : (zeroValue 22).run Try.prog w = .ok (.slice none 0 0) w := by kernel_rfl
theorem uKs : Try.prog.underlying 31 = some (.map 3 9) := Try.underlying31
theorem zKs (w : World) : (zeroValue 9).run Try.prog w = .ok (.string ⟨#[]⟩) w := by kernel_rfl
/-- the map of each key's lines -/
structure Ap (w0 v : World) (m1 m2 n : Nat) (ap : List UInt8 → List Ev) (V : List UInt8 → Value) : Prop where
  a : ∃ q c, Yt v m2 q c (fun s => if ap s = [] then none else some (V s)) ∧ q ≤ n
  o : ∀ s, v.ownsRow w0.heap.size 29 5 (V s) (ap s).length (eflat (ap s))
  z : ∀ s, ap s = [] → V s = .slice none 0 0
  k : Kp (fun _ => False) w0 v
  e : ∀ s x, x ∈ ap s → x.ok w0
  ne : ∀ s t b, s ≠ t → (V s).ownBlock = some b → (V t).ownBlock ≠ some b
  nm : ∀ s b, (V s).ownBlock = some b → b ≠ m1 ∧ b ≠ m2
  mm : m1 ≠ m2 ∧ w0.heap.size ≤ m1 ∧ w0.heap.size ≤ m2 ∧ m1 < v.heap.size
theorem Ap.keep {S : Nat → Prop} {w0 v v' : World} {m1 m2 n : Nat} {ap : List UInt8 → List Ev} {V : List UInt8 → Value} (h : Ap w0 v m1 m2 n ap V) (k : Kp S v v') (h1 : ∀ s b, (V s).ownBlock = some b → ¬ S b) (h2 : ¬ S m2) (h3 : ∀ b, b < w0.heap.size → ¬ S b) : Ap w0 v' m1 m2 n ap V := by
  obtain ⟨q, c, y1, y2⟩ := h.a
  have := k.size
  exact ⟨⟨q, c, y1.keep k h2, y2⟩, fun s => ownsRow_keep (h.o s) k (fun b hb => h1 s b hb), h.z, h.k.trans k (fun b hb => h3 b hb), h.e, h.ne, h.nm, by have := h.mm; omega⟩
theorem Ap.look {w0 v : World} {m1 m2 n : Nat} {ap : List UInt8 → List Ev} {V : List UInt8 → Value} (h : Ap w0 v m1 m2 n ap V) (key : ByteArray) (hk : key.size ≤ maxLen) : (Instr.lookup 32 (.map (some m2)) (.string key) false).run Try.prog v = .ok (V key.data.toList) v := by
  obtain ⟨q, c, y1, y2⟩ := h.a
  have := look_yt uAp zAp y1 key hk
  rw [this]
  congr 1
  by_cases e : ap key.data.toList = []
  · rw [if_pos e, h.z _ e]; rfl
  · rw [if_neg e]; rfl
set_option maxRecDepth 100000 in
theorem Ap.put {w0 v : World} {m1 m2 n : Nat} {ap : List UInt8 → List Ev} {V : List UInt8 → Value} (h : Ap w0 v m1 m2 n ap V) (hn : n ≤ 1000) (key : ByteArray) (hk : key.size ≤ maxLen) (x : Ev) (hx : x.ok w0) (hl : (ap key.data.toList).length ≤ 900) :
    ∃ g cap2 w2 r w3, (Builtin.append_ #[22, 22] 22 #[V key.data.toList, .slice (some ⟨v.heap.size, 0, none⟩) 1 1]).run Try.prog (v.alloc (.cells #[.bool x.ans, .int .i64 x.id, .int .i64 x.kind, .string x.key, x.b.v] 29)) = .ok (.slice (some ⟨g, 0, none⟩) ((ap key.data.toList).length + 1) cap2) w2 ∧
      (Instr.mapUpdate 32 (.map (some m2)) (.string key) (.slice (some ⟨g, 0, none⟩) ((ap key.data.toList).length + 1) cap2)).run Try.prog w2 = .ok r w3 ∧
      Ap w0 w3 m1 m2 (n + 1) (setI ap key.data.toList (ap key.data.toList ++ [x])) (setI V key.data.toList (.slice (some ⟨g, 0, none⟩) ((ap key.data.toList).length + 1) cap2)) ∧
      Kp (fun b => (V key.data.toList).ownBlock = some b) v w2 ∧ Kp (fun b => (V key.data.toList).ownBlock = some b ∨ b = m2) v w3 := by
  obtain ⟨ti, tz, hi1, hi2, hi3, hi4, hi5⟩ := infoEv
  obtain ⟨s, hs⟩ : ∃ s, s = key.data.toList := ⟨_, rfl⟩
  rw [← hs] at hl ⊢
  obtain ⟨v1, hv1⟩ : ∃ y, y = v.alloc (.cells #[.bool x.ans, .int .i64 x.id, .int .i64 x.kind, .string x.key, x.b.v] 29) := ⟨_, rfl⟩
  have ka : Kp (fun _ => False) v v1 := by rw [hv1]; exact (Kp.refl _ _).alloc _
  have hlv : Lv v1 v.heap.size (ecell x) := by rw [hv1]; exact Lv.new v _ _
  have z1 : v1.heap.size = v.heap.size + 1 := by rw [hv1]; simp
  rw [← hv1]
  have hs0 := h.k.size
  have hone : ∀ u ∈ ecell x, u.oneCell' = true := by
    have := ec_one x hx.b.one
    intro u hu
    exact (Array.all_eq_true_iff_forall_mem.1 this) u (by simpa using hu)
  have ho := ownsRow_keep (h.o s) ka (fun _ _ => id)
  obtain ⟨v3, w2, hap, ow, gr, bl⟩ := run_append_own_src (P := Try.prog) v1 w0.heap.size 22 22 22 29 ti tz 5 64 Try.underlying22 hi1 hi2 hi3 hi4 hi5 (by decide) (V s) (ap s).length (eflat (ap s)) ho (.slice (some ⟨v.heap.size, 0, none⟩) 1 1) 1 (ecell x) (Src.ofSlice _ Try.underlying22 ⟨v.heap.size, 0, none⟩ 1 1 (ecell x) rfl (fun j u hj => by rw [Addr.add_mid, Nat.zero_add]; exact hlv.cell hj) hone) (by unfold maxLen; omega) (by omega) (by omega)
  have hv' : ∃ g cap, v3 = .slice (some ⟨g, 0, none⟩) ((ap s).length + 1) cap := by
    rcases Joins.ownsRow_forms ow with ⟨e1, e2⟩ | ⟨g, cap, e⟩
    · omega
    · exact ⟨g, cap, e⟩
  obtain ⟨g, cap, rfl⟩ := hv'
  have k3 := grownBy_kp gr
  have kk : Kp (fun b => (V s).ownBlock = some b) v w2 := (ka.mono (fun _ _ e => e.elim)).trans k3 (fun _ _ e => e)
  have hbg : (V s).ownBlock = some g ∨ g = v.heap.size + 1 := by
    rcases bl with e | e
    · exact Or.inl e.symm
    · exact Or.inr (by rw [← z1]; exact Option.some.inj (show some g = some v1.heap.size from e))
  obtain ⟨q, c, y1, y2⟩ := h.a
  have hm2 : ¬ ((V s).ownBlock = some m2) := fun e => (h.nm s m2 e).2 rfl
  have hm2l := y1.lt
  have hmm := h.mm
  have hbl : ∀ t b, (V t).ownBlock = some b → w0.heap.size ≤ b ∧ b < v.heap.size := fun t b e => ownBlock_lt (h.o t) e
  obtain ⟨r, w3, hmu, ⟨c9, hy9⟩, km⟩ := yt_update uAp (y1.keep kk hm2) (by omega) key hk (.slice (some ⟨g, 0, none⟩) ((ap s).length + 1) cap)
  rw [← hs] at hy9
  have hgm : g ≠ m1 ∧ g ≠ m2 := by
    rcases hbg with e | e
    · exact h.nm s g e
    · omega
  have k03 : Kp (fun b => (V s).ownBlock = some b ∨ b = m2) v w3 := (kk.mono (fun _ _ e => Or.inl e)).trans (km.mono (fun _ _ e => Or.inr e)) (fun _ _ e => e)
  have hob : ∀ u : Value, Value.ownBlock (.slice (some ⟨g, 0, none⟩) ((ap s).length + 1) cap) = some g := fun _ => rfl
  refine ⟨g, cap, w2, r, w3, hap, hmu, ⟨⟨q + 1, c9, ?_, by omega⟩, fun t => ?_, fun t ht => ?_, ?_, fun t y hy => ?_, fun t u b htu hb => ?_, fun t b hb => ?_, ?_⟩, kk, k03⟩
  · have : updS (fun s => if ap s = [] then none else some (V s)) s (.slice (some ⟨g, 0, none⟩) ((ap s).length + 1) cap) = fun t => if setI ap s (ap s ++ [x]) t = [] then none else some (setI V s (.slice (some ⟨g, 0, none⟩) ((ap s).length + 1) cap) t) := by
      funext t
      unfold updS setI
      by_cases e : t = s
      · rw [if_pos e, if_pos e, if_pos e, if_neg (by simp)]
      · rw [if_neg e, if_neg e, if_neg e]
    rw [← this]
    exact hy9
  · unfold setI
    by_cases e : t = s
    · rw [if_pos e, if_pos e, List.length_append, eflat_append]
      refine ownsRow_keep ?_ km (fun b hb e2 => ?_)
      · have : eflat [x] = ecell x := by show ecell x ++ [] = _; rw [List.append_nil]
        rw [this]
        exact ow
      · have : g = b := Option.some.inj hb
        omega
    · rw [if_neg e, if_neg e]
      exact ownsRow_keep (h.o t) k03 (fun b hb e2 => by
        rcases e2 with e2 | e2
        · exact h.ne t s b e hb e2
        · exact (h.nm t b hb).2 e2)
  · unfold setI at ht ⊢
    by_cases e : t = s
    · rw [if_pos e] at ht; simp at ht
    · rw [if_neg e] at ht ⊢; exact h.z t ht
  · exact h.k.trans k03 (fun b hb e2 => by
      rcases e2 with e2 | e2
      · have := (hbl s b e2).1; omega
      · omega)
  · unfold setI at hy
    by_cases e : t = s
    · rw [if_pos e] at hy
      rcases List.mem_append.1 hy with r | r
      · exact h.e s y r
      · rw [List.mem_singleton] at r; subst r; exact hx
    · rw [if_neg e] at hy; exact h.e t y hy
  · unfold setI at hb ⊢
    by_cases e1 : t = s
    · rw [if_pos e1] at hb
      have e2 : u ≠ s := fun e => htu (by rw [e1, e])
      rw [if_neg e2]
      have hgb : g = b := Option.some.inj hb
      subst hgb
      rcases hbg with r | r
      · exact h.ne s u g (fun e => e2 e.symm) r
      · intro e3
        have := (hbl u g e3).2
        omega
    · rw [if_neg e1] at hb
      by_cases e2 : u = s
      · rw [if_pos e2]
        intro e3
        have hgb : g = b := Option.some.inj e3
        subst hgb
        rcases hbg with r | r
        · exact h.ne t s g e1 hb r
        · have := (hbl t g hb).2
          omega
      · rw [if_neg e2]; exact h.ne t u b htu hb
  · unfold setI at hb
    by_cases e1 : t = s
    · rw [if_pos e1] at hb
      have hgb : g = b := Option.some.inj hb
      subst hgb
      exact hgm
    · rw [if_neg e1] at hb; exact h.nm t b hb
  · have := k03.size
    omega
theorem exec_lk {ev : Operand → Value} {d : Option Tmp} {g : Option (Nat × Bool)} {t ty2 : TypeId} {x y : Operand} {mv kv v : Value} {z : World} (e1 : ev x = mv) (e2 : ev y = kv) (hr : (Instr.lookup t mv kv false).run Try.prog z = .ok v z) : (execOp ev ⟨d, Op.lookup t x y false, ty2, "", #[], g⟩).run Try.prog z = .ok (.value v) z := by
  unfold execOp
  simp [e1, e2, hr, Result.andThen]

theorem ap_bs (x : Ev) (ev : Operand → Value) (z : World) (e56 : ev (.tmp 56) = .agg #[.bool x.ans, .int .i64 x.id, .int .i64 x.kind, .string x.key, x.b.v]) : (execOp ev ⟨some 57, Op.buildSlice 22 1 #[(0, Operand.tmp 56)], 22, "", #[], none⟩).run Try.prog z = .ok (.value (.slice (some ⟨z.heap.size, 0, none⟩) 1 1)) (z.alloc (.cells #[.bool x.ans, .int .i64 x.id, .int .i64 x.kind, .string x.key, x.b.v] 29)) := by go_simp
theorem ap_ap (v y v2 : Value) (ev : Operand → Value) (z z2 : World) (e55 : ev (.tmp 55) = v) (e57 : ev (.tmp 57) = y) (hr : (Builtin.append_ #[22, 22] 22 #[v, y]).run Try.prog z = .ok v2 z2) : (execOp ev ⟨some 58, Op.call { callee := Callee.builtin Builtin.append, args := #[Operand.tmp 55, Operand.tmp 57], argTypes := #[22, 22] }, 22, "", #[], none⟩).run Try.prog z = .ok (.value v2) z2 := by
  unfold execOp
  simp only [resolve, invoke, builtin, Sem.run_bind, Sem.run_pure, Result.andThen_ok, List.map_toArray, List.map_cons, List.map_nil, e55, e57, hr]
theorem apr_0 (m1 m2 bx : Nat) (zi : Int) (key : ByteArray) (v : Value) (x : Ev) (g n2 cap2 : Nat) (ev : Operand → Value) (z : World) (ec : ∀ c, ev (.const c) = c) (e4 : ev (.tmp 4) = .map (some m2)) (hS : z.cell? ⟨bx, 1, none⟩ = some (.int .i64 zi) ∧ (Instr.lookup 31 (.map (some m1)) (.int .i64 zi) false).run Try.prog z = .ok (.string key) z ∧ (loadVar 29 ⟨bx, 0, none⟩).run Try.prog z = .ok (.agg #[.bool x.ans, .int .i64 x.id, .int .i64 x.kind, .string x.key, x.b.v]) z) : (execOp ev ⟨some 45, Op.move (Operand.tmp 4), 32, "", #[], none⟩).run Try.prog z = .ok (.value (.map (some m2))) z := by
  obtain sl := hS
  go_simp
theorem apr_1 (m1 m2 bx : Nat) (zi : Int) (key : ByteArray) (v : Value) (x : Ev) (g n2 cap2 : Nat) (ev : Operand → Value) (z : World) (ec : ∀ c, ev (.const c) = c) (e3 : ev (.tmp 3) = .map (some m1)) (hS : z.cell? ⟨bx, 1, none⟩ = some (.int .i64 zi) ∧ (Instr.lookup 31 (.map (some m1)) (.int .i64 zi) false).run Try.prog z = .ok (.string key) z ∧ (loadVar 29 ⟨bx, 0, none⟩).run Try.prog z = .ok (.agg #[.bool x.ans, .int .i64 x.id, .int .i64 x.kind, .string x.key, x.b.v]) z) : (execOp ev ⟨some 46, Op.move (Operand.tmp 3), 31, "", #[], none⟩).run Try.prog z = .ok (.value (.map (some m1))) z := by
  obtain sl := hS
  go_simp
theorem apr_2 (m1 m2 bx : Nat) (zi : Int) (key : ByteArray) (v : Value) (x : Ev) (g n2 cap2 : Nat) (ev : Operand → Value) (z : World) (ec : ∀ c, ev (.const c) = c) (e6 : ev (.tmp 6) = .pointer (some ⟨bx, 0, none⟩)) (hS : z.cell? ⟨bx, 1, none⟩ = some (.int .i64 zi) ∧ (Instr.lookup 31 (.map (some m1)) (.int .i64 zi) false).run Try.prog z = .ok (.string key) z ∧ (loadVar 29 ⟨bx, 0, none⟩).run Try.prog z = .ok (.agg #[.bool x.ans, .int .i64 x.id, .int .i64 x.kind, .string x.key, x.b.v]) z) : (execOp ev ⟨some 47, Op.fieldAddr 29 (Operand.tmp 6) 1, 0, "", #[], none⟩).run Try.prog z = .ok (.value (.pointer (some ⟨bx, 1, none⟩))) z := by
  clear hS
  go_simp
theorem apr_3 (m1 m2 bx : Nat) (zi : Int) (key : ByteArray) (v : Value) (x : Ev) (g n2 cap2 : Nat) (ev : Operand → Value) (z : World) (ec : ∀ c, ev (.const c) = c) (e47 : ev (.tmp 47) = .pointer (some ⟨bx, 1, none⟩)) (hS : z.cell? ⟨bx, 1, none⟩ = some (.int .i64 zi) ∧ (Instr.lookup 31 (.map (some m1)) (.int .i64 zi) false).run Try.prog z = .ok (.string key) z ∧ (loadVar 29 ⟨bx, 0, none⟩).run Try.prog z = .ok (.agg #[.bool x.ans, .int .i64 x.id, .int .i64 x.kind, .string x.key, x.b.v]) z) : (execOp ev ⟨some 48, Op.load 3 (Operand.tmp 47), 3, "", #[], none⟩).run Try.prog z = .ok (.value (.int .i64 zi)) z := by
  have hS1 := hS.1
  clear hS
  go_simp
theorem apr_4 (m1 m2 bx : Nat) (zi : Int) (key : ByteArray) (v : Value) (x : Ev) (g n2 cap2 : Nat) (ev : Operand → Value) (z : World) (ec : ∀ c, ev (.const c) = c) (e46 : ev (.tmp 46) = .map (some m1)) (e48 : ev (.tmp 48) = .int .i64 zi) (hS : z.cell? ⟨bx, 1, none⟩ = some (.int .i64 zi) ∧ (Instr.lookup 31 (.map (some m1)) (.int .i64 zi) false).run Try.prog z = .ok (.string key) z ∧ (loadVar 29 ⟨bx, 0, none⟩).run Try.prog z = .ok (.agg #[.bool x.ans, .int .i64 x.id, .int .i64 x.kind, .string x.key, x.b.v]) z) : (execOp ev ⟨some 49, Op.lookup 31 (Operand.tmp 46) (Operand.tmp 48) false, 9, "", #[], none⟩).run Try.prog z = .ok (.value (.string key)) z := by
  exact exec_lk e46 e48 hS.2.1
theorem apr_5 (m1 m2 bx : Nat) (zi : Int) (key : ByteArray) (v : Value) (x : Ev) (g n2 cap2 : Nat) (ev : Operand → Value) (z : World) (ec : ∀ c, ev (.const c) = c) (e4 : ev (.tmp 4) = .map (some m2)) (hS : z.cell? ⟨bx, 1, none⟩ = some (.int .i64 zi) ∧ (Instr.lookup 31 (.map (some m1)) (.int .i64 zi) false).run Try.prog z = .ok (.string key) z ∧ (loadVar 29 ⟨bx, 0, none⟩).run Try.prog z = .ok (.agg #[.bool x.ans, .int .i64 x.id, .int .i64 x.kind, .string x.key, x.b.v]) z) : (execOp ev ⟨some 50, Op.move (Operand.tmp 4), 32, "", #[], none⟩).run Try.prog z = .ok (.value (.map (some m2))) z := by
  obtain sl := hS
  go_simp
theorem apr_6 (m1 m2 bx : Nat) (zi : Int) (key : ByteArray) (v : Value) (x : Ev) (g n2 cap2 : Nat) (ev : Operand → Value) (z : World) (ec : ∀ c, ev (.const c) = c) (e3 : ev (.tmp 3) = .map (some m1)) (hS : z.cell? ⟨bx, 1, none⟩ = some (.int .i64 zi) ∧ (Instr.lookup 31 (.map (some m1)) (.int .i64 zi) false).run Try.prog z = .ok (.string key) z ∧ (loadVar 29 ⟨bx, 0, none⟩).run Try.prog z = .ok (.agg #[.bool x.ans, .int .i64 x.id, .int .i64 x.kind, .string x.key, x.b.v]) z) : (execOp ev ⟨some 51, Op.move (Operand.tmp 3), 31, "", #[], none⟩).run Try.prog z = .ok (.value (.map (some m1))) z := by
  obtain sl := hS
  go_simp
theorem apr_7 (m1 m2 bx : Nat) (zi : Int) (key : ByteArray) (v : Value) (x : Ev) (g n2 cap2 : Nat) (ev : Operand → Value) (z : World) (ec : ∀ c, ev (.const c) = c) (e6 : ev (.tmp 6) = .pointer (some ⟨bx, 0, none⟩)) (hS : z.cell? ⟨bx, 1, none⟩ = some (.int .i64 zi) ∧ (Instr.lookup 31 (.map (some m1)) (.int .i64 zi) false).run Try.prog z = .ok (.string key) z ∧ (loadVar 29 ⟨bx, 0, none⟩).run Try.prog z = .ok (.agg #[.bool x.ans, .int .i64 x.id, .int .i64 x.kind, .string x.key, x.b.v]) z) : (execOp ev ⟨some 52, Op.fieldAddr 29 (Operand.tmp 6) 1, 0, "", #[], none⟩).run Try.prog z = .ok (.value (.pointer (some ⟨bx, 1, none⟩))) z := by
  clear hS
  go_simp
theorem apr_8 (m1 m2 bx : Nat) (zi : Int) (key : ByteArray) (v : Value) (x : Ev) (g n2 cap2 : Nat) (ev : Operand → Value) (z : World) (ec : ∀ c, ev (.const c) = c) (e52 : ev (.tmp 52) = .pointer (some ⟨bx, 1, none⟩)) (hS : z.cell? ⟨bx, 1, none⟩ = some (.int .i64 zi) ∧ (Instr.lookup 31 (.map (some m1)) (.int .i64 zi) false).run Try.prog z = .ok (.string key) z ∧ (loadVar 29 ⟨bx, 0, none⟩).run Try.prog z = .ok (.agg #[.bool x.ans, .int .i64 x.id, .int .i64 x.kind, .string x.key, x.b.v]) z) : (execOp ev ⟨some 53, Op.load 3 (Operand.tmp 52), 3, "", #[], none⟩).run Try.prog z = .ok (.value (.int .i64 zi)) z := by
  have hS1 := hS.1
  clear hS
  go_simp
theorem apr_9 (m1 m2 bx : Nat) (zi : Int) (key : ByteArray) (v : Value) (x : Ev) (g n2 cap2 : Nat) (ev : Operand → Value) (z : World) (ec : ∀ c, ev (.const c) = c) (e51 : ev (.tmp 51) = .map (some m1)) (e53 : ev (.tmp 53) = .int .i64 zi) (hS : z.cell? ⟨bx, 1, none⟩ = some (.int .i64 zi) ∧ (Instr.lookup 31 (.map (some m1)) (.int .i64 zi) false).run Try.prog z = .ok (.string key) z ∧ (loadVar 29 ⟨bx, 0, none⟩).run Try.prog z = .ok (.agg #[.bool x.ans, .int .i64 x.id, .int .i64 x.kind, .string x.key, x.b.v]) z) : (execOp ev ⟨some 54, Op.lookup 31 (Operand.tmp 51) (Operand.tmp 53) false, 9, "", #[], none⟩).run Try.prog z = .ok (.value (.string key)) z := by
  exact exec_lk e51 e53 hS.2.1
theorem apr_11 (m1 m2 bx : Nat) (zi : Int) (key : ByteArray) (v : Value) (x : Ev) (g n2 cap2 : Nat) (ev : Operand → Value) (z : World) (ec : ∀ c, ev (.const c) = c) (e6 : ev (.tmp 6) = .pointer (some ⟨bx, 0, none⟩)) (hS : z.cell? ⟨bx, 1, none⟩ = some (.int .i64 zi) ∧ (Instr.lookup 31 (.map (some m1)) (.int .i64 zi) false).run Try.prog z = .ok (.string key) z ∧ (loadVar 29 ⟨bx, 0, none⟩).run Try.prog z = .ok (.agg #[.bool x.ans, .int .i64 x.id, .int .i64 x.kind, .string x.key, x.b.v]) z) : (execOp ev ⟨some 56, Op.load 29 (Operand.tmp 6), 29, "", #[], none⟩).run Try.prog z = .ok (.value (.agg #[.bool x.ans, .int .i64 x.id, .int .i64 x.kind, .string x.key, x.b.v])) z := by
  exact exec_ldr e6 hS.2.2
structure aprR (ops : Array Oper) : Prop where
  size : ops.size = 15
  sel : Region.noSelect ops = true
  o0 : (ops[0]?).map bare = some ⟨some 45, Op.move (Operand.tmp 4), 32, "", #[], none⟩
  o1 : (ops[1]?).map bare = some ⟨some 46, Op.move (Operand.tmp 3), 31, "", #[], none⟩
  o2 : (ops[2]?).map bare = some ⟨some 47, Op.fieldAddr 29 (Operand.tmp 6) 1, 0, "", #[], none⟩
  o3 : (ops[3]?).map bare = some ⟨some 48, Op.load 3 (Operand.tmp 47), 3, "", #[], none⟩
  o4 : (ops[4]?).map bare = some ⟨some 49, Op.lookup 31 (Operand.tmp 46) (Operand.tmp 48) false, 9, "", #[], none⟩
  o5 : (ops[5]?).map bare = some ⟨some 50, Op.move (Operand.tmp 4), 32, "", #[], none⟩
  o6 : (ops[6]?).map bare = some ⟨some 51, Op.move (Operand.tmp 3), 31, "", #[], none⟩
  o7 : (ops[7]?).map bare = some ⟨some 52, Op.fieldAddr 29 (Operand.tmp 6) 1, 0, "", #[], none⟩
  o8 : (ops[8]?).map bare = some ⟨some 53, Op.load 3 (Operand.tmp 52), 3, "", #[], none⟩
  o9 : (ops[9]?).map bare = some ⟨some 54, Op.lookup 31 (Operand.tmp 51) (Operand.tmp 53) false, 9, "", #[], none⟩
  o10 : (ops[10]?).map bare = some ⟨some 55, Op.lookup 32 (Operand.tmp 50) (Operand.tmp 54) false, 22, "", #[], none⟩
  o11 : (ops[11]?).map bare = some ⟨some 56, Op.load 29 (Operand.tmp 6), 29, "", #[], none⟩
  o12 : (ops[12]?).map bare = some ⟨some 57, Op.buildSlice 22 1 #[(0, Operand.tmp 56)], 22, "", #[], none⟩
  o13 : (ops[13]?).map bare = some ⟨some 58, Op.call { callee := Callee.builtin Builtin.append, args := #[Operand.tmp 55, Operand.tmp 57], argTypes := #[22, 22] }, 22, "", #[], none⟩
  o14 : (ops[14]?).map bare = some ⟨none, Op.mapUpdate 32 (Operand.tmp 45) (Operand.tmp 49) (Operand.tmp 58), 0, "", #[], none⟩
  f1 : takeB .any ops [0, 1, 2, 3, 4, 5, 6, 7, 8, 9, 11] (Array.replicate 15 false) = true
  f2 : Region.ready .any ops (mark [0, 1, 2, 3, 4, 5, 6, 7, 8, 9, 11] (Array.replicate 15 false)) = [10, 12]
  f3 : Region.ready .any ops ((mark [0, 1, 2, 3, 4, 5, 6, 7, 8, 9, 11] (Array.replicate 15 false)).setIfInBounds 10 true) = [12]
  f4 : Region.ready .any ops (((mark [0, 1, 2, 3, 4, 5, 6, 7, 8, 9, 11] (Array.replicate 15 false)).setIfInBounds 10 true).setIfInBounds 12 true) = [13]
  f5 : Region.ready .any ops ((((mark [0, 1, 2, 3, 4, 5, 6, 7, 8, 9, 11] (Array.replicate 15 false)).setIfInBounds 10 true).setIfInBounds 12 true).setIfInBounds 13 true) = [14]
  f6 : Region.ready .any ops (((((mark [0, 1, 2, 3, 4, 5, 6, 7, 8, 9, 11] (Array.replicate 15 false)).setIfInBounds 10 true).setIfInBounds 12 true).setIfInBounds 13 true).setIfInBounds 14 true) = []
  f7 : Region.ready .any ops ((mark [0, 1, 2, 3, 4, 5, 6, 7, 8, 9, 11] (Array.replicate 15 false)).setIfInBounds 12 true) = [10]
  f8 : Region.ready .any ops (((mark [0, 1, 2, 3, 4, 5, 6, 7, 8, 9, 11] (Array.replicate 15 false)).setIfInBounds 12 true).setIfInBounds 10 true) = [13]
  f9 : Region.ready .any ops ((((mark [0, 1, 2, 3, 4, 5, 6, 7, 8, 9, 11] (Array.replicate 15 false)).setIfInBounds 12 true).setIfInBounds 10 true).setIfInBounds 13 true) = [14]
  f10 : Region.ready .any ops (((((mark [0, 1, 2, 3, 4, 5, 6, 7, 8, 9, 11] (Array.replicate 15 false)).setIfInBounds 12 true).setIfInBounds 10 true).setIfInBounds 13 true).setIfInBounds 14 true) = []

set_option maxRecDepth 100000 in
set_option maxHeartbeats 3200000 in
theorem apr_region {ops : Array Oper} {id : Nat} {Q : Exit → Act → World → Prop} {a : Act} {y : World} (R : aprR ops) (m1 m2 bx : Nat) (zi : Int) (key : ByteArray) (v : Value) (x : Ev) (g n2 cap2 : Nat)
    (hQ : ∀ d v c a w, Q (.panic c) (a.put d v) w → Q (.panic c) a w) (hsz : a.tmps.size = 78) (e3 : a.eval (.tmp 3) = .map (some m1)) (e4 : a.eval (.tmp 4) = .map (some m2)) (e6 : a.eval (.tmp 6) = .pointer (some ⟨bx, 0, none⟩)) (w2 w3 : World) (r : Unit) (hS0 : y.drew.cell? ⟨bx, 1, none⟩ = some (.int .i64 zi) ∧ (Instr.lookup 31 (.map (some m1)) (.int .i64 zi) false).run Try.prog y.drew = .ok (.string key) y.drew ∧ (loadVar 29 ⟨bx, 0, none⟩).run Try.prog y.drew = .ok (.agg #[.bool x.ans, .int .i64 x.id, .int .i64 x.kind, .string x.key, x.b.v]) y.drew) (hC : (Instr.lookup 32 (.map (some m2)) (.string key) false).run Try.prog y.drew = .ok v y.drew) (hS1 : (y.drew.alloc (.cells #[.bool x.ans, .int .i64 x.id, .int .i64 x.kind, .string x.key, x.b.v] 29)).cell? ⟨bx, 1, none⟩ = some (.int .i64 zi) ∧ (Instr.lookup 31 (.map (some m1)) (.int .i64 zi) false).run Try.prog (y.drew.alloc (.cells #[.bool x.ans, .int .i64 x.id, .int .i64 x.kind, .string x.key, x.b.v] 29)) = .ok (.string key) (y.drew.alloc (.cells #[.bool x.ans, .int .i64 x.id, .int .i64 x.kind, .string x.key, x.b.v] 29)) ∧ (loadVar 29 ⟨bx, 0, none⟩).run Try.prog (y.drew.alloc (.cells #[.bool x.ans, .int .i64 x.id, .int .i64 x.kind, .string x.key, x.b.v] 29)) = .ok (.agg #[.bool x.ans, .int .i64 x.id, .int .i64 x.kind, .string x.key, x.b.v]) (y.drew.alloc (.cells #[.bool x.ans, .int .i64 x.id, .int .i64 x.kind, .string x.key, x.b.v] 29))) (hC1 : (Instr.lookup 32 (.map (some m2)) (.string key) false).run Try.prog (y.drew.alloc (.cells #[.bool x.ans, .int .i64 x.id, .int .i64 x.kind, .string x.key, x.b.v] 29)) = .ok v (y.drew.alloc (.cells #[.bool x.ans, .int .i64 x.id, .int .i64 x.kind, .string x.key, x.b.v] 29))) (hS2 : w2.cell? ⟨bx, 1, none⟩ = some (.int .i64 zi) ∧ (Instr.lookup 31 (.map (some m1)) (.int .i64 zi) false).run Try.prog w2 = .ok (.string key) w2 ∧ (loadVar 29 ⟨bx, 0, none⟩).run Try.prog w2 = .ok (.agg #[.bool x.ans, .int .i64 x.id, .int .i64 x.kind, .string x.key, x.b.v]) w2) (hS3 : w3.cell? ⟨bx, 1, none⟩ = some (.int .i64 zi) ∧ (Instr.lookup 31 (.map (some m1)) (.int .i64 zi) false).run Try.prog w3 = .ok (.string key) w3 ∧ (loadVar 29 ⟨bx, 0, none⟩).run Try.prog w3 = .ok (.agg #[.bool x.ans, .int .i64 x.id, .int .i64 x.kind, .string x.key, x.b.v]) w3) (hap : (Builtin.append_ #[22, 22] 22 #[v, .slice (some ⟨y.drew.heap.size, 0, none⟩) 1 1]).run Try.prog (y.drew.alloc (.cells #[.bool x.ans, .int .i64 x.id, .int .i64 x.kind, .string x.key, x.b.v] 29)) = .ok (.slice (some ⟨g, 0, none⟩) n2 cap2) w2) (hmu : (Instr.mapUpdate 32 (.map (some m2)) (.string key) (.slice (some ⟨g, 0, none⟩) n2 cap2)).run Try.prog w2 = .ok r w3)
    (hK1 :  Q .normal ((((((((((((((a.put (some 45) (.map (some m2))).put (some 46) (.map (some m1))).put (some 47) (.pointer (some ⟨bx, 1, none⟩))).put (some 48) (.int .i64 zi)).put (some 49) (.string key)).put (some 50) (.map (some m2))).put (some 51) (.map (some m1))).put (some 52) (.pointer (some ⟨bx, 1, none⟩))).put (some 53) (.int .i64 zi)).put (some 54) (.string key)).put (some 56) (.agg #[.bool x.ans, .int .i64 x.id, .int .i64 x.kind, .string x.key, x.b.v])).put (some 55) (v)).put (some 57) (.slice (some ⟨y.drew.heap.size, 0, none⟩) 1 1)).put (some 58) (.slice (some ⟨g, 0, none⟩) n2 cap2)) w3) (hK2 :  Q .normal ((((((((((((((a.put (some 45) (.map (some m2))).put (some 46) (.map (some m1))).put (some 47) (.pointer (some ⟨bx, 1, none⟩))).put (some 48) (.int .i64 zi)).put (some 49) (.string key)).put (some 50) (.map (some m2))).put (some 51) (.map (some m1))).put (some 52) (.pointer (some ⟨bx, 1, none⟩))).put (some 53) (.int .i64 zi)).put (some 54) (.string key)).put (some 56) (.agg #[.bool x.ans, .int .i64 x.id, .int .i64 x.kind, .string x.key, x.b.v])).put (some 57) (.slice (some ⟨y.drew.heap.size, 0, none⟩) 1 1)).put (some 55) (v)).put (some 58) (.slice (some ⟨g, 0, none⟩) n2 cap2)) w3) : (Code.region id ops true).wp Try.prog Q a y := by
  have HR : Hid (aprR ops) := R
  have hdf : a.defers = a.defers := rfl
  refine wp_region_held_drew (S := (fun z : World => z.cell? ⟨bx, 1, none⟩ = some (.int .i64 zi) ∧ (Instr.lookup 31 (.map (some m1)) (.int .i64 zi) false).run Try.prog z = .ok (.string key) z ∧ (loadVar 29 ⟨bx, 0, none⟩).run Try.prog z = .ok (.agg #[.bool x.ans, .int .i64 x.id, .int .i64 x.kind, .string x.key, x.b.v]) z)) (by kernel_rfl) (hS0) (fun hHeld => ?_)
  rw [R.size]
  clear R
  refine wpAnyH_takes HR.out.sel hQ (hHeld) [0, 1, 2, 3, 4, 5, 6, 7, 8, 9, 11] 4 _ _ HR.out.f1 ?_
  refine wpTake_stepE ⟨some 45, Op.move (Operand.tmp 4), 32, "", #[], none⟩ 45 (.map (some m2)) HR.out.o0 rfl (by rw [hsz]; decide) (wanted_none rfl) (fun z hS => apr_0 m1 m2 bx zi key v x g n2 cap2 _ z (fun _ => rfl) e4 hS) ?_
  intro a1 ha1 s1 f1 n1 k1
  replace hsz := s1.trans hsz
  replace hdf := f1.trans hdf
  replace e3 := (k1 3 (by decide)).trans e3
  replace e4 := (k1 4 (by decide)).trans e4
  replace e6 := (k1 6 (by decide)).trans e6
  have e45 := n1
  clear s1 f1 n1 k1
  refine wpTake_stepE ⟨some 46, Op.move (Operand.tmp 3), 31, "", #[], none⟩ 46 (.map (some m1)) HR.out.o1 rfl (by rw [hsz]; decide) (wanted_none rfl) (fun z hS => apr_1 m1 m2 bx zi key v x g n2 cap2 _ z (fun _ => rfl) e3 hS) ?_
  intro a2 ha2 s1 f1 n1 k1
  replace hsz := s1.trans hsz
  replace hdf := f1.trans hdf
  replace e3 := (k1 3 (by decide)).trans e3
  replace e4 := (k1 4 (by decide)).trans e4
  replace e6 := (k1 6 (by decide)).trans e6
  replace e45 := (k1 45 (by decide)).trans e45
  have e46 := n1
  clear s1 f1 n1 k1
  refine wpTake_stepE ⟨some 47, Op.fieldAddr 29 (Operand.tmp 6) 1, 0, "", #[], none⟩ 47 (.pointer (some ⟨bx, 1, none⟩)) HR.out.o2 rfl (by rw [hsz]; decide) (wanted_none rfl) (fun z hS => apr_2 m1 m2 bx zi key v x g n2 cap2 _ z (fun _ => rfl) e6 hS) ?_
  intro a3 ha3 s1 f1 n1 k1
  replace hsz := s1.trans hsz
  replace hdf := f1.trans hdf
  replace e3 := (k1 3 (by decide)).trans e3
  replace e4 := (k1 4 (by decide)).trans e4
  replace e6 := (k1 6 (by decide)).trans e6
  replace e45 := (k1 45 (by decide)).trans e45
  replace e46 := (k1 46 (by decide)).trans e46
  have e47 := n1
  clear s1 f1 n1 k1
  refine wpTake_stepE ⟨some 48, Op.load 3 (Operand.tmp 47), 3, "", #[], none⟩ 48 (.int .i64 zi) HR.out.o3 rfl (by rw [hsz]; decide) (wanted_none rfl) (fun z hS => apr_3 m1 m2 bx zi key v x g n2 cap2 _ z (fun _ => rfl) e47 hS) ?_
  intro a4 ha4 s1 f1 n1 k1
  replace hsz := s1.trans hsz
  replace hdf := f1.trans hdf
  replace e3 := (k1 3 (by decide)).trans e3
  replace e4 := (k1 4 (by decide)).trans e4
  replace e6 := (k1 6 (by decide)).trans e6
  replace e45 := (k1 45 (by decide)).trans e45
  replace e46 := (k1 46 (by decide)).trans e46
  have e48 := n1
  clear s1 f1 n1 k1
  refine wpTake_stepE ⟨some 49, Op.lookup 31 (Operand.tmp 46) (Operand.tmp 48) false, 9, "", #[], none⟩ 49 (.string key) HR.out.o4 rfl (by rw [hsz]; decide) (wanted_none rfl) (fun z hS => apr_4 m1 m2 bx zi key v x g n2 cap2 _ z (fun _ => rfl) e46 e48 hS) ?_
  intro a5 ha5 s1 f1 n1 k1
  replace hsz := s1.trans hsz
  replace hdf := f1.trans hdf
  replace e3 := (k1 3 (by decide)).trans e3
  replace e4 := (k1 4 (by decide)).trans e4
  replace e6 := (k1 6 (by decide)).trans e6
  replace e45 := (k1 45 (by decide)).trans e45
  have e49 := n1
  clear s1 f1 n1 k1
  refine wpTake_stepE ⟨some 50, Op.move (Operand.tmp 4), 32, "", #[], none⟩ 50 (.map (some m2)) HR.out.o5 rfl (by rw [hsz]; decide) (wanted_none rfl) (fun z hS => apr_5 m1 m2 bx zi key v x g n2 cap2 _ z (fun _ => rfl) e4 hS) ?_
  intro a6 ha6 s1 f1 n1 k1
  replace hsz := s1.trans hsz
  replace hdf := f1.trans hdf
  replace e3 := (k1 3 (by decide)).trans e3
  replace e6 := (k1 6 (by decide)).trans e6
  replace e45 := (k1 45 (by decide)).trans e45
  replace e49 := (k1 49 (by decide)).trans e49
  have e50 := n1
  clear s1 f1 n1 k1
  refine wpTake_stepE ⟨some 51, Op.move (Operand.tmp 3), 31, "", #[], none⟩ 51 (.map (some m1)) HR.out.o6 rfl (by rw [hsz]; decide) (wanted_none rfl) (fun z hS => apr_6 m1 m2 bx zi key v x g n2 cap2 _ z (fun _ => rfl) e3 hS) ?_
  intro a7 ha7 s1 f1 n1 k1
  replace hsz := s1.trans hsz
  replace hdf := f1.trans hdf
  replace e6 := (k1 6 (by decide)).trans e6
  replace e45 := (k1 45 (by decide)).trans e45
  replace e49 := (k1 49 (by decide)).trans e49
  replace e50 := (k1 50 (by decide)).trans e50
  have e51 := n1
  clear s1 f1 n1 k1
  refine wpTake_stepE ⟨some 52, Op.fieldAddr 29 (Operand.tmp 6) 1, 0, "", #[], none⟩ 52 (.pointer (some ⟨bx, 1, none⟩)) HR.out.o7 rfl (by rw [hsz]; decide) (wanted_none rfl) (fun z hS => apr_7 m1 m2 bx zi key v x g n2 cap2 _ z (fun _ => rfl) e6 hS) ?_
  intro a8 ha8 s1 f1 n1 k1
  replace hsz := s1.trans hsz
  replace hdf := f1.trans hdf
  replace e6 := (k1 6 (by decide)).trans e6
  replace e45 := (k1 45 (by decide)).trans e45
  replace e49 := (k1 49 (by decide)).trans e49
  replace e50 := (k1 50 (by decide)).trans e50
  replace e51 := (k1 51 (by decide)).trans e51
  have e52 := n1
  clear s1 f1 n1 k1
  refine wpTake_stepE ⟨some 53, Op.load 3 (Operand.tmp 52), 3, "", #[], none⟩ 53 (.int .i64 zi) HR.out.o8 rfl (by rw [hsz]; decide) (wanted_none rfl) (fun z hS => apr_8 m1 m2 bx zi key v x g n2 cap2 _ z (fun _ => rfl) e52 hS) ?_
  intro a9 ha9 s1 f1 n1 k1
  replace hsz := s1.trans hsz
  replace hdf := f1.trans hdf
  replace e6 := (k1 6 (by decide)).trans e6
  replace e45 := (k1 45 (by decide)).trans e45
  replace e49 := (k1 49 (by decide)).trans e49
  replace e50 := (k1 50 (by decide)).trans e50
  replace e51 := (k1 51 (by decide)).trans e51
  have e53 := n1
  clear s1 f1 n1 k1
  refine wpTake_stepE ⟨some 54, Op.lookup 31 (Operand.tmp 51) (Operand.tmp 53) false, 9, "", #[], none⟩ 54 (.string key) HR.out.o9 rfl (by rw [hsz]; decide) (wanted_none rfl) (fun z hS => apr_9 m1 m2 bx zi key v x g n2 cap2 _ z (fun _ => rfl) e51 e53 hS) ?_
  intro a10 ha10 s1 f1 n1 k1
  replace hsz := s1.trans hsz
  replace hdf := f1.trans hdf
  replace e6 := (k1 6 (by decide)).trans e6
  replace e45 := (k1 45 (by decide)).trans e45
  replace e49 := (k1 49 (by decide)).trans e49
  replace e50 := (k1 50 (by decide)).trans e50
  have e54 := n1
  clear s1 f1 n1 k1
  refine wpTake_stepE ⟨some 56, Op.load 29 (Operand.tmp 6), 29, "", #[], none⟩ 56 (.agg #[.bool x.ans, .int .i64 x.id, .int .i64 x.kind, .string x.key, x.b.v]) HR.out.o11 rfl (by rw [hsz]; decide) (wanted_none rfl) (fun z hS => apr_11 m1 m2 bx zi key v x g n2 cap2 _ z (fun _ => rfl) e6 hS) ?_
  intro a11 ha11 s1 f1 n1 k1
  replace hsz := s1.trans hsz
  replace hdf := f1.trans hdf
  replace e45 := (k1 45 (by decide)).trans e45
  replace e49 := (k1 49 (by decide)).trans e49
  replace e50 := (k1 50 (by decide)).trans e50
  replace e54 := (k1 54 (by decide)).trans e54
  have e56 := n1
  clear s1 f1 n1 k1
  refine wpTake_nil ?_
  refine wpAnyH_two ⟨some 55, Op.lookup 32 (Operand.tmp 50) (Operand.tmp 54) false, 22, "", #[], none⟩ ⟨some 57, Op.buildSlice 22 1 #[(0, Operand.tmp 56)], 22, "", #[], none⟩ HR.out.f2 HR.out.o10 HR.out.o12 rfl rfl (fun Ka hKa => ?_) (fun Ka hKa => ?_)
  · refine wp_value (exec_lk e50 e54 hC) (hKa.out _ _ (hHeld) ?_)
    clear hKa Ka
    show wpAnyH _ _ _ _ _ _ _ (Act.put a11 (some 55) (v)) _
    obtain ⟨s1, f1, n1, k1⟩ := act_put a11 55 (v) (show 55 < _ by rw [hsz]; decide)
    obtain ⟨a12, ha12⟩ : ∃ x, x = Act.put a11 (some 55) (v) := ⟨_, rfl⟩
    rw [← ha12] at s1 f1 n1 k1 ⊢
    replace hsz := s1.trans hsz
    replace hdf := f1.trans hdf
    replace e45 := (k1 45 (by decide)).trans e45
    replace e49 := (k1 49 (by decide)).trans e49
    replace e56 := (k1 56 (by decide)).trans e56
    have e55 := n1
    clear s1 f1 n1 k1
    refine wpAnyH_run ⟨some 57, Op.buildSlice 22 1 #[(0, Operand.tmp 56)], 22, "", #[], none⟩ _ (.slice (some ⟨y.drew.heap.size, 0, none⟩) 1 1) _ HR.out.f3 HR.out.o12 rfl rfl (ap_bs x _ _ e56) (hS1) ?_
    obtain ⟨s1, f1, n1, k1⟩ := act_put a12 57 (.slice (some ⟨y.drew.heap.size, 0, none⟩) 1 1) (show 57 < _ by rw [hsz]; decide)
    obtain ⟨a13, ha13⟩ : ∃ x, x = Act.put a12 (some 57) (.slice (some ⟨y.drew.heap.size, 0, none⟩) 1 1) := ⟨_, rfl⟩
    rw [← ha13] at s1 f1 n1 k1 ⊢
    replace hsz := s1.trans hsz
    replace hdf := f1.trans hdf
    replace e45 := (k1 45 (by decide)).trans e45
    replace e49 := (k1 49 (by decide)).trans e49
    replace e55 := (k1 55 (by decide)).trans e55
    have e57 := n1
    clear s1 f1 n1 k1
    refine wpAnyH_run ⟨some 58, Op.call { callee := Callee.builtin Builtin.append, args := #[Operand.tmp 55, Operand.tmp 57], argTypes := #[22, 22] }, 22, "", #[], none⟩ _ (.slice (some ⟨g, 0, none⟩) n2 cap2) _ HR.out.f4 HR.out.o13 rfl rfl (ap_ap _ _ _ _ _ _ e55 e57 hap) (hS2) ?_
    obtain ⟨s1, f1, n1, k1⟩ := act_put a13 58 (.slice (some ⟨g, 0, none⟩) n2 cap2) (show 58 < _ by rw [hsz]; decide)
    obtain ⟨a14, ha14⟩ : ∃ x, x = Act.put a13 (some 58) (.slice (some ⟨g, 0, none⟩) n2 cap2) := ⟨_, rfl⟩
    rw [← ha14] at s1 f1 n1 k1 ⊢
    replace hsz := s1.trans hsz
    replace hdf := f1.trans hdf
    replace e45 := (k1 45 (by decide)).trans e45
    replace e49 := (k1 49 (by decide)).trans e49
    have e58 := n1
    clear s1 f1 n1 k1
    refine wpAnyH_skip ⟨none, Op.mapUpdate 32 (Operand.tmp 45) (Operand.tmp 49) (Operand.tmp 58), 0, "", #[], none⟩ _ HR.out.f5 HR.out.o14 rfl rfl (exec_mu e45 e49 e58 hmu) (hS3) ?_
    refine wpAnyH_done HR.out.f6 ?_ _
    rw [ha14, ha13, ha12, ha11, ha10, ha9, ha8, ha7, ha6, ha5, ha4, ha3, ha2, ha1]
    exact hK1
  · refine wp_value (ap_bs x _ _ e56) (hKa.out _ _ (hS1) ?_)
    clear hKa Ka
    show wpAnyH _ _ _ _ _ _ _ (Act.put a11 (some 57) (.slice (some ⟨y.drew.heap.size, 0, none⟩) 1 1)) _
    obtain ⟨s1, f1, n1, k1⟩ := act_put a11 57 (.slice (some ⟨y.drew.heap.size, 0, none⟩) 1 1) (show 57 < _ by rw [hsz]; decide)
    obtain ⟨a12, ha12⟩ : ∃ x, x = Act.put a11 (some 57) (.slice (some ⟨y.drew.heap.size, 0, none⟩) 1 1) := ⟨_, rfl⟩
    rw [← ha12] at s1 f1 n1 k1 ⊢
    replace hsz := s1.trans hsz
    replace hdf := f1.trans hdf
    replace e45 := (k1 45 (by decide)).trans e45
    replace e49 := (k1 49 (by decide)).trans e49
    replace e50 := (k1 50 (by decide)).trans e50
    replace e54 := (k1 54 (by decide)).trans e54
    have e57 := n1
    clear s1 f1 n1 k1
    refine wpAnyH_run ⟨some 55, Op.lookup 32 (Operand.tmp 50) (Operand.tmp 54) false, 22, "", #[], none⟩ _ (v) _ HR.out.f7 HR.out.o10 rfl rfl (exec_lk e50 e54 hC1) (hS1) ?_
    obtain ⟨s1, f1, n1, k1⟩ := act_put a12 55 (v) (show 55 < _ by rw [hsz]; decide)
    obtain ⟨a13, ha13⟩ : ∃ x, x = Act.put a12 (some 55) (v) := ⟨_, rfl⟩
    rw [← ha13] at s1 f1 n1 k1 ⊢
    replace hsz := s1.trans hsz
    replace hdf := f1.trans hdf
    replace e45 := (k1 45 (by decide)).trans e45
    replace e49 := (k1 49 (by decide)).trans e49
    replace e57 := (k1 57 (by decide)).trans e57
    have e55 := n1
    clear s1 f1 n1 k1
    refine wpAnyH_run ⟨some 58, Op.call { callee := Callee.builtin Builtin.append, args := #[Operand.tmp 55, Operand.tmp 57], argTypes := #[22, 22] }, 22, "", #[], none⟩ _ (.slice (some ⟨g, 0, none⟩) n2 cap2) _ HR.out.f8 HR.out.o13 rfl rfl (ap_ap _ _ _ _ _ _ e55 e57 hap) (hS2) ?_
    obtain ⟨s1, f1, n1, k1⟩ := act_put a13 58 (.slice (some ⟨g, 0, none⟩) n2 cap2) (show 58 < _ by rw [hsz]; decide)
    obtain ⟨a14, ha14⟩ : ∃ x, x = Act.put a13 (some 58) (.slice (some ⟨g, 0, none⟩) n2 cap2) := ⟨_, rfl⟩
    rw [← ha14] at s1 f1 n1 k1 ⊢
    replace hsz := s1.trans hsz
    replace hdf := f1.trans hdf
    replace e45 := (k1 45 (by decide)).trans e45
    replace e49 := (k1 49 (by decide)).trans e49
    have e58 := n1
    clear s1 f1 n1 k1
    refine wpAnyH_skip ⟨none, Op.mapUpdate 32 (Operand.tmp 45) (Operand.tmp 49) (Operand.tmp 58), 0, "", #[], none⟩ _ HR.out.f9 HR.out.o14 rfl rfl (exec_mu e45 e49 e58 hmu) (hS3) ?_
    refine wpAnyH_done HR.out.f10 ?_ _
    rw [ha14, ha13, ha12, ha11, ha10, ha9, ha8, ha7, ha6, ha5, ha4, ha3, ha2, ha1]
    exact hK2
-- R: ⟨by kernel_rfl, by kernel_rfl, by kernel_rfl, by kernel_rfl, by kernel_rfl, by kernel_rfl, by kernel_rfl, by kernel_rfl, by kernel_rfl, by kernel_rfl, by kernel_rfl, by kernel_rfl, by kernel_rfl, by kernel_rfl, by kernel_rfl, by kernel_rfl, by kernel_rfl, by kernel_rfl, by kernel_rfl, by kernel_rfl, by kernel_rfl, by kernel_rfl, by kernel_rfl, by kernel_rfl, by kernel_rfl, by kernel_rfl, by kernel_rfl⟩

end Go.Proofs.Ytbbgplnenbkfeaa
