/- The document's list of shards that wait, in memory: Keep. -/
import Derived.Test.YtnpaoppfhffoiaaKd
namespace Go.Proofs.Ytnpaoppfhffoiaa
set_option linter.unusedVariables false
set_option linter.unusedSimpArgs false
open Go.RowKit Go.Deep Go.Maps Go.Shelf Go.Lib Go.Sort

theorem infoX0 : (Try.prog.info? 67).map (fun i => (i.zero.map (·.cells.size), i.size, i.bytes)) = some (some 3, 3, 24) := by kernel_rfl
theorem infoX : ∃ i z, Try.prog.info? 67 = some i ∧ i.zero = some z ∧ i.size = 3 ∧ i.bytes = 24 ∧ z.cells.size = 3 := by
  obtain ⟨i, hi, he⟩ := Option.map_eq_some_iff.1 infoX0
  simp only [Prod.mk.injEq] at he
  obtain ⟨h1, h2, h3⟩ := he
  obtain ⟨z, hz, h4⟩ := Option.map_eq_some_iff.1 h1
  exact ⟨i, z, hi, hz, h2, h3, h4⟩
theorem uXs : Try.prog.underlying 26 = some (.slice 67) := Try.underlying26

/-- append of one that waits, just built, for the walk -/
theorem wpList_append_wt {ops : Array Oper} {rest : List Oper} {o : Oper} {a : Act} {Q : Exit → Act → World → Prop} {W : World} {xa xb xt : Int} (hgd : o.guard = none) (s y : Operand)
    (ho : o.op = .call { callee := .builtin .append, args := #[s, y], argTypes := #[26, 26] })
    (base : Nat) (v : Value) (xs : List Wt) (hs : a.eval s = v) (gg : Nat) (hx0 : a.eval y = .slice (some ⟨gg, 0, none⟩) 1 1) (hgg : gg = W.heap.size) (hown : W.ownsRow base 67 3 v xs.length (wflat xs)) (hl : xs.length ≤ 100000) (hb : base ≤ W.heap.size)
    (h : ∀ v' w', w'.ownsRow base 67 3 v' (xs ++ [(⟨xa, xb, xt⟩ : Wt)]).length (wflat (xs ++ [(⟨xa, xb, xt⟩ : Wt)])) → Kp (fun b => v.ownBlock = some b) W w' → (v'.ownBlock = v.ownBlock ∨ ∃ g, v'.ownBlock = some g ∧ W.heap.size < g) → wpList Try.prog ops Q rest (a.put o.dst v') w') :
    wpList Try.prog ops Q (o :: rest) a (W.alloc (.cells #[.int .i64 xa, .int .i64 xb, .int .i64 xt] 67)) := by
  subst hgg
  have hx := hx0
  obtain ⟨ti, tz, hi1, hi2, hi3, hi4, hi5⟩ := infoX
  have k5 : Kp (fun _ => False) W (W.alloc (.cells #[.int .i64 xa, .int .i64 xb, .int .i64 xt] 67)) := (Kp.refl _ _).alloc _
  have hx5 : Lv (W.alloc (.cells #[.int .i64 xa, .int .i64 xb, .int .i64 xt] 67)) W.heap.size [.int .i64 xa, .int .i64 xb, .int .i64 xt] := Lv.new W _ _
  refine wpList_append_own_src _ hgd s y 26 26 ho base 67 ti tz 3 24 uXs hi1 hi2 hi3 hi4 hi5 (by decide) v xs.length (wflat xs) hs (ownsRow_keep hown k5 (fun _ _ e => e)) (.slice (some ⟨W.heap.size, 0, none⟩) 1 1) 1 [.int .i64 xa, .int .i64 xb, .int .i64 xt] hx (Src.ofSlice _ uXs ⟨W.heap.size, 0, none⟩ 1 1 [.int .i64 xa, .int .i64 xb, .int .i64 xt] rfl (fun j u hj => by rw [Addr.add_mid, Nat.zero_add]; exact hx5.cell hj) (fun u hu => by simp only [List.mem_cons, List.not_mem_nil, or_false] at hu; rcases hu with rfl | rfl | rfl <;> rfl)) (by unfold maxLen; omega) (by omega) (Nat.le_trans hb k5.size) ?_
  intro v' w' h1 h2 h3
  refine h v' w' ?_ (k5.mono (fun _ _ e => e.elim) |>.trans (grownBy_kp h2) (fun b _ e => e)) ?_
  · rw [List.length_append, wflat_append]
    exact h1
  · rcases h3 with h3 | h3
    · exact Or.inl h3
    · exact Or.inr ⟨_, h3, by simp⟩

/-- the list at t, of its own -/
def Xl (w : World) (base t : Nat) (l : List Wt) : Prop := ∃ v, Lv w t [v] ∧ w.ownsRow base 67 3 v l.length (wflat l) ∧ v.ownBlock ≠ some t ∧ base ≤ t
theorem Xl.lt {w : World} {base t : Nat} {l : List Wt} (h : Xl w base t l) : t < w.heap.size := by
  obtain ⟨v, h1, _⟩ := h
  exact h1.lt (by simp)
theorem Xr.ofOwn {w : World} {base : Nat} {v : Value} {l : List Wt} (h : w.ownsRow base 67 3 v l.length (wflat l)) : Xr w (fun b => v.ownBlock = some b) v l := by
  rcases Joins.ownsRow_forms h with ⟨e1, e2⟩ | ⟨g, cap, e⟩
  · have : l = [] := List.eq_nil_of_length_eq_zero e2
    subst this
    rw [e1]
    exact ⟨_, _, rfl, fun j hj => absurd hj (Nat.not_lt_zero _)⟩
  · rw [e] at h ⊢
    refine ⟨_, cap, rfl, fun j hj => ⟨g, 0, rfl, rfl, ?_, ?_, ?_⟩⟩
    · have := h.cells (g := g) rfl (j * 3) _ (wflat_get l j hj).1
      rw [Addr.add_mid, Nat.zero_add] at this
      rw [Nat.zero_add]
      exact this
    · have := h.cells (g := g) rfl (j * 3 + 1) _ (wflat_get l j hj).2.1
      rw [Addr.add_mid, Nat.zero_add] at this
      rw [Nat.zero_add]
      exact this
    · have := h.cells (g := g) rfl (j * 3 + 2) _ (wflat_get l j hj).2.2
      rw [Addr.add_mid, Nat.zero_add] at this
      rw [Nat.zero_add]
      exact this
theorem Xl.keep {S : Nat → Prop} {w w' : World} {base t : Nat} {l : List Wt} (h : Xl w base t l) (k : Kp S w w') (hS : ∀ b, base ≤ b → b < w.heap.size → ¬ S b) : Xl w' base t l := by
  obtain ⟨v, h1, h2, h3, h4⟩ := h
  exact ⟨v, h1.keep k (hS _ h4 (h1.lt (by simp))), ownsRow_keep h2 k (fun b hb e => hS b (ownBlock_lt h2 hb).1 (ownBlock_lt h2 hb).2 e), h3, h4⟩

def keepX (l : List Wt) (a b : Int) : List Wt := l.filter (fun x => !((x.b == a) && (x.i == b)))

set_option maxRecDepth 100000 in
set_option maxHeartbeats 3200000 in
theorem xkeep_ok {w : World} {base t : Nat} {l : List Wt} (h : Xl w base t l) (pa pb : Int) (hl : l.length ≤ 100) :
    Calls Try.prog 13 #[.pointer (some ⟨t, 0, none⟩), .int .i64 pa, .int .i64 pb] w fun e w' => e = .returned (.tuple #[]) ∧ Kp (fun b => b = t) w w' ∧ Xl w' base t (keepX l pa pb) := by
  have HX : Hid (Xl w base t l) := h
  obtain ⟨v, ht, hr, hne, hbt⟩ := h
  obtain ⟨p1, c1, rfl, q1⟩ := Xr.ofOwn hr
  obtain ⟨n, hn⟩ : ∃ n, n = l.length := ⟨_, rfl⟩
  have Q1 : Hid (∀ j, j < n → ∃ g o, p1 = some ⟨g, o, none⟩ ∧ w.cell? ⟨g, o + j * 3, none⟩ = some (.int .i64 (l.getD j wt0).b) ∧ w.cell? ⟨g, o + j * 3 + 1, none⟩ = some (.int .i64 (l.getD j wt0).i) ∧ w.cell? ⟨g, o + j * 3 + 2, none⟩ = some (.int .i64 (l.getD j wt0).t)) := fun j hj => by
    obtain ⟨g, o, e, _, c1, c2, c3⟩ := q1 j (by omega)
    exact ⟨g, o, e, c1, c2, c3⟩
  have HN : Hid (n = l.length ∧ n ≤ 100) := ⟨hn, by omega⟩
  have hc := ht.cell (j := 0) rfl
  rw [← hn] at hc
  have htl : t < w.heap.size := ht.lt (by simp)
  have HT : Hid (t < w.heap.size ∧ base ≤ t) := ⟨htl, hbt⟩
  clear q1 hn hl hr hne hbt ht htl
  have hn9 : n ≤ 100 := HN.out.2
  go_enter Try.func13, Try.ntmps13
  go_wp2
  go_loopg [6, 14] n (fun gk dx i wr => ∃ (k : Nat) (dv : Value), k ≤ n ∧ gk = n - k ∧ dx = dv ∧ i = .int .i64 k ∧ Hid (Kp (fun _ => False) w wr ∧ wr.ownsRow w.heap.size 67 3 dv (keepX (l.take k) pa pb).length (wflat (keepX (l.take k) pa pb))))
  case atStart => exact ⟨0, _, Nat.zero_le _, rfl, rfl, rfl, Kp.refl _ _, by simpa [keepX, wflat] using World.ownsRow_nil _ _ _ _⟩
  case round =>
    obtain ⟨k, dv, hk, rfl, hdx, rfl, HS⟩ := hrel
    obtain rfl := hdx.symm
    clear hdx
    by_cases hlt : (k : Int) < (n : Int)
    · obtain ⟨g1, o1, rfl, a1, b1, d1⟩ := Q1.out k (by omega)
      have hs := HS.out
      have a2 := hs.1.cellv a1 id
      have b2 := hs.1.cellv b1 id
      have d2 := hs.1.cellv d1 id
      have HKK : Hid (k < n) := by show k < n; omega
      have htk : keepX (l.take (k + 1)) pa pb = keepX (l.take k) pa pb ++ keepX [l.getD k wt0] pa pb := by
        have hkl : k < l.length := by have := HN.out; omega
        unfold keepX
        rw [List.take_add_one, List.getElem?_eq_getElem hkl, List.getD_eq_getElem?_getD, List.getElem?_eq_getElem hkl, List.filter_append]
        rfl
      have hkl9 : (keepX (l.take k) pa pb).length ≤ 100 := by
        have h1 : (keepX (l.take k) pa pb).length ≤ (l.take k).length := List.length_filter_le _ _
        rw [List.length_take] at h1
        have := HN.out
        omega
      obtain ⟨x, hx⟩ : ∃ x, x = l.getD k wt0 := ⟨_, rfl⟩
      rw [← hx] at a2 b2 d2 htk
      obtain ⟨xa, xb, xt⟩ := x
      dsimp only at a2 b2 d2
      have kx : Kp (fun _ => False) wr (wr.alloc (.cells #[.int .i64 xa, .int .i64 xb, .int .i64 xt] 67)) := (Kp.refl _ _).alloc _
      have hxl : Lv (wr.alloc (.cells #[.int .i64 xa, .int .i64 xb, .int .i64 xt] 67)) wr.heap.size [.int .i64 xa, .int .i64 xb, .int .i64 xt] := Lv.new wr _ _
      have px0 := hxl.cell (j := 0) rfl
      have px1 := hxl.cell (j := 1) rfl
      have px2 := hxl.cell (j := 2) rfl
      have HXO : Hid (Kp (fun _ => False) w (wr.alloc (.cells #[.int .i64 xa, .int .i64 xb, .int .i64 xt] 67)) ∧ (wr.alloc (.cells #[.int .i64 xa, .int .i64 xb, .int .i64 xt] 67)).ownsRow w.heap.size 67 3 dv (keepX (l.take k) pa pb).length (wflat (keepX (l.take k) pa pb)) ∧ (keepX (l.take k) pa pb).length ≤ 100) := ⟨hs.1.alloc _, ownsRow_keep hs.2 kx (fun _ _ e => e), hkl9⟩
      have HTK : Hid (keepX (l.take (k + 1)) pa pb = keepX (l.take k) pa pb ++ keepX [⟨xa, xb, xt⟩] pa pb) := htk
      have hnq := neqP2 xa xb pa pb
      have hgd := fun x y => gdP2 .neq x y xa xb pa pb
      clear hs a1 b1 d1 htk kx hxl hx hkl9
      by_cases he : xa = pa ∧ xb = pb
      · have hbv : ((xa == pa) && (xb == pb)) = true := by simp [he.1, he.2]
        rw [hbv] at hnq
        have hk0 : keepX (l.take (k + 1)) pa pb = keepX (l.take k) pa pb := by
          rw [HTK.out]; unfold keepX; simp [he.1, he.2]
        have HF : Hid (_ ∧ _) := ⟨HXO.out.1, HXO.out.2.1⟩
        rw [← hk0] at HF
        clear hbv hk0 he
        go_wp2
        go_roundg (n - (k + 1))
        case rel => exact ⟨k + 1, dv, by have := HKK.out; omega, rfl, rfl, by go_num, HF⟩
        case measure => have := HKK.out; omega
      · have hbv : ((xa == pa) && (xb == pb)) = false := by simp; omega
        rw [hbv] at hnq
        have HK1 : Hid (keepX (l.take (k + 1)) pa pb = keepX (l.take k) pa pb ++ [⟨xa, xb, xt⟩]) := by
          show _ = _
          rw [HTK.out]; congr 1; unfold keepX; simp [hbv]; omega
        clear hbv he
        go_wp2_with (at_builtin; go_must (refine wpList_append_wt (xa := xa) (xb := xb) (xt := xt) rfl _ _ rfl w.heap.size dv (keepX (l.take k) pa pb) rfl _ rfl (by simp) HXO.out.2.1 (by have := HXO.out; omega) HXO.out.1.size ?_); intro v5 w5 o5 k5 b5)
        rw [← HK1.out] at o5
        have HF : Hid (_ ∧ _) := ⟨HXO.out.1.trans k5 (fun b hb e => by have := (ownBlock_lt HXO.out.2.1 e).1; omega), o5⟩
        go_roundg (n - (k + 1))
        case rel => exact ⟨k + 1, v5, by have := HKK.out; omega, rfl, rfl, by go_num, HF⟩
        case measure => have := HKK.out; omega
    · have hkn : k = n := by omega
      have hs := HS.out
      rw [List.take_of_length_le (by have := HN.out; omega)] at hs
      obtain ⟨dp, dc, hdv, _⟩ := Xr.ofOwn hs.2
      obtain ⟨dn, hdn⟩ : ∃ dn, dn = (keepX l pa pb).length := ⟨_, rfl⟩
      rw [← hdn] at hdv
      subst hdv
      clear hdn
      have hcr := hs.1.cellv hc id
      have hx := HX.out
      obtain ⟨v0, hv0, _, _, _⟩ := hx
      have hl0 := hv0.keep hs.1 id
      have hfz := hl0.fz (j := 0) (by simp)
      have HL0 : Hid (Lv wr t [v0]) := hl0
      have HSS : Hid (Kp (fun _ => False) w wr ∧ wr.ownsRow w.heap.size 67 3 (.slice dp dn dc) (keepX l pa pb).length (wflat (keepX l pa pb))) := hs
      clear hs hv0 hl0
      go_wp2
      refine bodyPost_end (results_none rfl _ _ _) rfl ?_
      have hs := HSS.out
      have hset : Kp (fun b => b = t) wr (wr.setCell ⟨t, 0, none⟩ (.slice dp dn dc)) := kp_setCells t [.slice dp dn dc] 0 wr
      refine ⟨rfl, (hs.1.mono (fun _ _ e => e.elim)).trans hset (fun b _ e => e), .slice dp dn dc, ?_, ?_, ?_, HT.out.2⟩
      · simpa using HL0.out.set1 0 (.slice dp dn dc) (by simp)
      · exact ownsRow_base (ownsRow_keep hs.2 hset (fun b hb e => by have := (ownBlock_lt hs.2 hb).1; have := HT.out; omega)) (by have := HT.out; omega)
      · intro e
        have := (ownBlock_lt hs.2 e).1
        have := HT.out
        omega
end Go.Proofs.Ytnpaoppfhffoiaa
