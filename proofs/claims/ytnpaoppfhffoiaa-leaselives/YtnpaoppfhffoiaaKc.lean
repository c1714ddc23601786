/- The document's Pairs. -/
import Derived.Test.YtnpaoppfhffoiaaKa
namespace Go.Proofs.Ytnpaoppfhffoiaa
set_option linter.unusedVariables false
set_option linter.unusedSimpArgs false
open Go.RowKit Go.Deep Go.Maps Go.Shelf Go.Lib Go.Sort

theorem pstep_len (p : Int × Int) (a : List (Int × Int) × Bool) (x : Int × Int) : (pstep p a x).1.length ≤ a.1.length + 2 := by
  unfold pstep
  dsimp only
  split <;> split <;> simp
theorem fold_len (p : Int × Int) : ∀ (l : List (Int × Int)) (a : List (Int × Int) × Bool), (l.foldl (pstep p) a).1.length ≤ a.1.length + 2 * l.length
  | [], a => by simp
  | x :: l, a => by
    rw [List.foldl_cons]
    have h1 := fold_len p l (pstep p a x)
    have h2 := pstep_len p a x
    simp only [List.length_cons]
    omega
theorem neqP2 (a b c d : Int) (w : World) : (binOp .neq 39 (pv2 a b) (pv2 c d)).run Try.prog w = .ok (.bool (!((a == c) && (b == d)))) w := by
  rw [run_neq_struct, eqP]
  rfl
theorem eqlP2 (a b c d : Int) (w : World) : (binOp .eql 39 (pv2 a b) (pv2 c d)).run Try.prog w = .ok (.bool ((a == c) && (b == d))) w := by
  rw [run_eql_struct, eqP]
  rfl
theorem gdP2 (op : BinOp) (x y : Operand) (a b c d : Int) (w : World) : (eqGuard op 39 x y (pv2 a b) (pv2 c d)).run Try.prog w = .ok () w := run_eqGuard_agg _ _ _ _ _ _ _ eqgP

/-- append of one pair that was just built, for the walk -/
theorem wpList_append_pair {ops : Array Oper} {rest : List Oper} {o : Oper} {a : Act} {Q : Exit → Act → World → Prop} {W : World} {xa xb : Int} (hgd : o.guard = none) (s y : Operand)
    (ho : o.op = .call { callee := .builtin .append, args := #[s, y], argTypes := #[38, 38] })
    (base : Nat) (v : Value) (xs : List (Int × Int)) (hs : a.eval s = v) (gg : Nat) (hx0 : a.eval y = .slice (some ⟨gg, 0, none⟩) 1 1) (hgg : gg = W.heap.size) (hown : W.ownsRow base 39 2 v xs.length (pflat xs)) (hl : xs.length ≤ 100000) (hb : base ≤ W.heap.size)
    (h : ∀ v' w', w'.ownsRow base 39 2 v' (xs ++ [(xa, xb)]).length (pflat (xs ++ [(xa, xb)])) → Kp (fun b => v.ownBlock = some b) W w' → (v'.ownBlock = v.ownBlock ∨ ∃ g, v'.ownBlock = some g ∧ W.heap.size < g) → wpList Try.prog ops Q rest (a.put o.dst v') w') :
    wpList Try.prog ops Q (o :: rest) a (W.alloc (.cells #[.int .i64 xa, .int .i64 xb] 39)) := by
  subst hgg
  have hx := hx0
  obtain ⟨ti, tz, hi1, hi2, hi3, hi4, hi5⟩ := infoP
  have k5 : Kp (fun _ => False) W (W.alloc (.cells #[.int .i64 xa, .int .i64 xb] 39)) := (Kp.refl _ _).alloc _
  have hx5 : Lv (W.alloc (.cells #[.int .i64 xa, .int .i64 xb] 39)) W.heap.size [.int .i64 xa, .int .i64 xb] := Lv.new W _ _
  refine wpList_append_own_src _ hgd s y 38 38 ho base 39 ti tz 2 16 uPs hi1 hi2 hi3 hi4 hi5 (by decide) v xs.length (pflat xs) hs (ownsRow_keep hown k5 (fun _ _ e => e)) (.slice (some ⟨W.heap.size, 0, none⟩) 1 1) 1 [.int .i64 xa, .int .i64 xb] hx (Src.ofSlice _ uPs ⟨W.heap.size, 0, none⟩ 1 1 [.int .i64 xa, .int .i64 xb] rfl (fun j u hj => by rw [Addr.add_mid, Nat.zero_add]; exact hx5.cell hj) (fun u hu => by simp only [List.mem_cons, List.not_mem_nil, or_false] at hu; rcases hu with rfl | rfl <;> rfl)) (by unfold maxLen; omega) (by omega) (Nat.le_trans hb k5.size) ?_
  intro v' w' h1 h2 h3
  refine h v' w' ?_ (k5.mono (fun _ _ e => e.elim) |>.trans (grownBy_kp h2) (fun b _ e => e)) ?_
  · rw [List.length_append, pflat_append]
    exact h1
  · rcases h3 with h3 | h3
    · exact Or.inl h3
    · exact Or.inr ⟨_, h3, by simp⟩

set_option maxRecDepth 100000 in
set_option maxHeartbeats 6400000 in
theorem pairs_ok {w : World} {Z : Nat → Prop} {v : Value} {l : List (Int × Int)} (h : Pr w Z v l) (pa pb : Int) (hl : l.length ≤ 1000) :
    Calls Try.prog 37 #[v, pv2 pa pb] w fun e w' => ∃ rv, e = .returned rv ∧ Kp (fun _ => False) w w' ∧ w'.ownsRow w.heap.size 39 2 rv (pairsP l (pa, pb)).length (pflat (pairsP l (pa, pb))) := by
  obtain ⟨p1, c1, rfl, q1⟩ := h
  obtain ⟨n, hn⟩ : ∃ n, n = l.length := ⟨_, rfl⟩
  have Q1 : Hid (∀ j, j < n → ∃ g o, p1 = some ⟨g, o, none⟩ ∧ g < w.heap.size ∧ w.cell? ⟨g, o + j * 2, none⟩ = some (.int .i64 (l.getD j (0, 0)).1) ∧ w.cell? ⟨g, o + j * 2 + 1, none⟩ = some (.int .i64 (l.getD j (0, 0)).2)) := fun j hj => by
    obtain ⟨g, o, e, _, c1, c2⟩ := q1 j (by omega)
    exact ⟨g, o, e, World.block_lt_of_cell? w _ c1, c1, c2⟩
  have HN : Hid (n = l.length ∧ n ≤ 1000) := ⟨hn, by omega⟩
  obtain ⟨R, hR⟩ : ∃ R, R = pairsP l (pa, pb) := ⟨_, rfl⟩
  have HR : Hid (R = pairsP l (pa, pb)) := hR
  obtain ⟨ti, tz, hi1, hi2, hi3, hi4, hi5⟩ := infoP
  rw [← hn]
  rw [← hR]
  clear q1 hn hl hR
  have hbx : Lv (w.alloc (.cells #[.int .i64 pa, .int .i64 pb] 39)) w.heap.size [.int .i64 pa, .int .i64 pb] := Lv.new w _ _
  have kbx : Kp (fun _ => False) w (w.alloc (.cells #[.int .i64 pa, .int .i64 pb] 39)) := (Kp.refl _ _).alloc _
  go_enter Try.func37, Try.ntmps37
  go_wp2
  obtain ⟨w1, hw1⟩ : ∃ x, x = w.alloc (.cells #[.int .i64 pa, .int .i64 pb] 39) := ⟨_, rfl⟩
  obtain ⟨bx, hbxx⟩ : ∃ q, q = w.heap.size := ⟨_, rfl⟩
  rw [← hw1] at hbx kbx ⊢
  rw [← hbxx] at hbx ⊢
  have HBX : Hid (Lv w1 bx [.int .i64 pa, .int .i64 pb] ∧ Kp (fun _ => False) w w1 ∧ bx = w.heap.size) := ⟨hbx, kbx, hbxx⟩
  clear hw1 hbxx hbx kbx
  go_loopg [5, 6, 11] n (fun gk dx px i wr => ∃ (k : Nat) (dv : Value) (put : Bool) (acc : List (Int × Int)), k ≤ n ∧ gk = n - k ∧ dx = dv ∧ px = .bool put ∧ i = .int .i64 k ∧ Hid ((l.take k).foldl (pstep (pa, pb)) ([], false) = (acc, put) ∧ Kp (fun b => w.heap.size ≤ b ∧ b ≠ bx) w1 wr ∧ wr.ownsRow w.heap.size 39 2 dv acc.length (pflat acc) ∧ dv.ownBlock ≠ some bx))
  case atStart => exact ⟨0, _, false, [], Nat.zero_le _, rfl, rfl, rfl, rfl, by simp, Kp.refl _ _, World.ownsRow_nil _ _ _ _, by simp [Value.ownBlock]⟩
  case round =>
    obtain ⟨k, dv, put, acc, hk, rfl, hdx, rfl, rfl, HS⟩ := hrel
    obtain rfl := hdx.symm
    clear hdx
    --ROUND
    have hs := HS.out
    have hbx := HBX.out
    have hbase : w.heap.size ≤ wr.heap.size := Nat.le_trans hbx.2.1.size hs.2.1.size
    have hlen : acc.length ≤ 100000 := by
      have h1 := fold_len (pa, pb) (l.take k) ([], false)
      rw [hs.1] at h1
      have h2 := HN.out
      rw [List.length_take] at h1
      simp at h1
      omega
    have HLN : Hid (acc.length ≤ 99999 ∧ w.heap.size ≤ wr.heap.size ∧ bx < wr.heap.size) := by
      have h1 := fold_len (pa, pb) (l.take k) ([], false)
      rw [hs.1] at h1
      have h2 := HN.out
      rw [List.length_take] at h1
      simp at h1
      exact ⟨by omega, hbase, Nat.lt_of_lt_of_le (hbx.1.lt (by simp)) hs.2.1.size⟩
    have hbr : Lv wr bx [.int .i64 pa, .int .i64 pb] := hbx.1.keep hs.2.1 (fun e => e.2 rfl)
    have hn9 : n ≤ 1000 := HN.out.2
    clear hlen hbase
    by_cases hlt : (k : Int) < (n : Int)
    · obtain ⟨g1, o1, rfl, hg1, a1, b1⟩ := Q1.out k (by omega)
      have a2 := (hbx.2.1.trans hs.2.1 (S' := fun b => w.heap.size ≤ b ∧ b ≠ bx) (fun b hb e => by omega)).cellv a1 (fun e => e)
      have b2 := (hbx.2.1.trans hs.2.1 (S' := fun b => w.heap.size ≤ b ∧ b ≠ bx) (fun b hb e => by omega)).cellv b1 (fun e => e)
      have hfold : (l.take (k + 1)).foldl (pstep (pa, pb)) ([], false) = pstep (pa, pb) (acc, put) (l.getD k (0, 0)) := by
        have hkl : k < l.length := by have := HN.out; omega
        rw [List.take_add_one, List.getElem?_eq_getElem hkl, List.foldl_append, hs.1, List.getD_eq_getElem?_getD, List.getElem?_eq_getElem hkl]
        rfl
      obtain ⟨xx, hxx⟩ : ∃ x, x = l.getD k (0, 0) := ⟨_, rfl⟩
      rw [← hxx] at a2 b2 hfold
      obtain ⟨xa, xb⟩ := xx
      dsimp only at a2 b2
      have HFD : Hid ((l.take (k + 1)).foldl (pstep (pa, pb)) ([], false) = pstep (pa, pb) (acc, put) (xa, xb)) := hfold
      have HKK : Hid (k < n) := by show k < n; omega
      have kx : Kp (fun _ => False) wr (wr.alloc (.cells #[.int .i64 xa, .int .i64 xb] 39)) := (Kp.refl _ _).alloc _
      have hxl : Lv (wr.alloc (.cells #[.int .i64 xa, .int .i64 xb] 39)) wr.heap.size [.int .i64 xa, .int .i64 xb] := Lv.new wr _ _
      have HXL : Hid (Lv (wr.alloc (.cells #[.int .i64 xa, .int .i64 xb] 39)) wr.heap.size [.int .i64 xa, .int .i64 xb] ∧ Lv (wr.alloc (.cells #[.int .i64 xa, .int .i64 xb] 39)) bx [.int .i64 pa, .int .i64 pb] ∧ (wr.alloc (.cells #[.int .i64 xa, .int .i64 xb] 39)).ownsRow w.heap.size 39 2 dv acc.length (pflat acc) ∧ w.heap.size ≤ (wr.alloc (.cells #[.int .i64 xa, .int .i64 xb] 39)).heap.size) := ⟨hxl, hbr.keep kx (fun e => e), ownsRow_keep hs.2.2.1 kx (fun _ _ e => e), Nat.le_trans HLN.out.2.1 kx.size⟩
      have px0 := HXL.out.1.cell (j := 0) rfl
      have px1 := HXL.out.1.cell (j := 1) rfl
      have pp0 := HXL.out.2.1.cell (j := 0) rfl
      have pp1 := HXL.out.2.1.cell (j := 1) rfl
      -- the end of the round
      have HEND : Hid (∀ (w9 : World) (v9 : Value) (acc9 : List (Int × Int)) (put9 : Bool), pstep (pa, pb) (acc, put) (xa, xb) = (acc9, put9) → Kp (fun b => dv.ownBlock = some b ∨ wr.heap.size ≤ b) wr w9 → w9.ownsRow w.heap.size 39 2 v9 acc9.length (pflat acc9) → (v9.ownBlock = dv.ownBlock ∨ ∃ g, v9.ownBlock = some g ∧ wr.heap.size ≤ g) → (l.take (k + 1)).foldl (pstep (pa, pb)) ([], false) = (acc9, put9) ∧ Kp (fun b => w.heap.size ≤ b ∧ b ≠ bx) w1 w9 ∧ w9.ownsRow w.heap.size 39 2 v9 acc9.length (pflat acc9) ∧ v9.ownBlock ≠ some bx) := fun w9 v9 acc9 put9 e1 k9 o9 b9 => by
        have hs := HS.out
        have hl := HLN.out
        have hdv : ∀ b, dv.ownBlock = some b → w.heap.size ≤ b := fun b e => (ownBlock_lt hs.2.2.1 e).1
        refine ⟨HFD.out.trans e1, hs.2.1.trans k9 (fun b hb e => ?_), o9, fun e => ?_⟩
        · rcases e with e | e
          · exact ⟨hdv b e, fun e2 => hs.2.2.2 (e2 ▸ e)⟩
          · have := hs.2.1.size
            exact ⟨by omega, by omega⟩
        · rcases b9 with b9 | ⟨g, b9, b10⟩
          · exact hs.2.2.2 (b9 ▸ e)
          · rw [b9] at e
            injection e with e
            omega
      clear hs hbx hbr a1 b1 hfold hxx kx hxl
      cases put with
      | true =>
        by_cases hx : xa = pa ∧ xb = pb
        · obtain ⟨rfl, rfl⟩ := hx
          have hnq := neqP2 xa xb xa xb
          have hgd := fun x y => gdP2 .neq x y xa xb xa xb
          have hbv : ((xa == xa) && (xb == xb)) = true := by simp
          rw [hbv] at hnq
          clear hbv
          go_wp2
          have HF : Hid (_ ∧ _) := HEND.out _ dv acc true (by unfold pstep; simp) (((Kp.refl _ wr).alloc _)) HXL.out.2.2.1 (Or.inl rfl)
          clear HEND
          go_roundg (n - (k + 1))
          case rel => exact ⟨k + 1, dv, true, acc, by have := HKK.out; omega, rfl, rfl, rfl, (by have := HN.out; have := HKK.out; go_num), HF⟩
          case measure => have := HKK.out; omega
        · have hne : ¬ ((xa, xb) = (pa, pb)) := fun e => hx (by simpa using e)
          have hnq := neqP2 xa xb pa pb
          have hgd := fun x y => gdP2 .neq x y xa xb pa pb
          have hbv : ((xa == pa) && (xb == pb)) = false := by simp; omega
          rw [hbv] at hnq
          clear hbv
          go_wp2_with (at_builtin; go_must (refine wpList_append_pair (xa := xa) (xb := xb) rfl _ _ rfl w.heap.size dv acc rfl _ rfl (by simp) HXL.out.2.2.1 (by have := HLN.out; omega) HXL.out.2.2.2 ?_); intro v5 w5 o5 k5 b5; have cx0 := k5.cellv px0 (fun e => by have h1 := (ownBlock_lt HS.out.2.2.1 e).2; exact absurd h1 (Nat.lt_irrefl _)); have cx1 := k5.cellv px1 (fun e => by have h1 := (ownBlock_lt HS.out.2.2.1 e).2; exact absurd h1 (Nat.lt_irrefl _)); have cp0 := k5.cellv pp0 (fun e => HS.out.2.2.2 e); have cp1 := k5.cellv pp1 (fun e => HS.out.2.2.2 e))
          have HF : Hid (_ ∧ _) := HEND.out w5 v5 (acc ++ [(xa, xb)]) true (by unfold pstep; simp [hx]) (((Kp.refl (fun b => dv.ownBlock = some b ∨ wr.heap.size ≤ b) wr).alloc (.cells #[.int .i64 xa, .int .i64 xb] 39)).trans k5 (fun b _ e => Or.inl e)) o5 (by rcases b5 with e | ⟨g, e1, e2⟩; exact Or.inl e; exact Or.inr ⟨g, e1, by simp at e2; omega⟩)
          clear HEND
          go_roundg (n - (k + 1))
          case rel => exact ⟨k + 1, v5, true, acc ++ [(xa, xb)], by have := HKK.out; omega, rfl, rfl, rfl, (by have := HN.out; have := HKK.out; go_num), HF⟩
          case measure => have := HKK.out; omega
      | false =>
        by_cases h1 : pa < xa
        · have hx : ¬ (xa = pa ∧ xb = pb) := by omega
          have hnq := neqP2 xa xb pa pb
          have hgd := fun x y => gdP2 .neq x y xa xb pa pb
          have hbv : ((xa == pa) && (xb == pb)) = false := by simp; omega
          rw [hbv] at hnq
          clear hbv
          go_wp2_with (first
            | (have m2 := m1; at_builtin; go_must (refine wpList_append_pair (xa := xa) (xb := xb) rfl _ _ rfl w.heap.size v5 (acc ++ [(pa, pb)]) rfl _ rfl (by simp) o5 (by have := HLN.out; simp; omega) (Nat.le_trans HXL.out.2.2.2 k5.size) ?_); intro v6 w6 o6 k6 b6)
            | (at_builtin; go_must (refine wpList_append_pair (xa := pa) (xb := pb) rfl _ _ rfl w.heap.size dv acc rfl _ rfl (by simp) HXL.out.2.2.1 (by have := HLN.out; omega) HXL.out.2.2.2 ?_); intro v5 w5 o5 k5 b5; have m1 : True := trivial; have cx0 := k5.cellv px0 (fun e => by have h1 := (ownBlock_lt HS.out.2.2.1 e).2; exact absurd h1 (Nat.lt_irrefl _)); have cx1 := k5.cellv px1 (fun e => by have h1 := (ownBlock_lt HS.out.2.2.1 e).2; exact absurd h1 (Nat.lt_irrefl _)); have cp0 := k5.cellv pp0 (fun e => HS.out.2.2.2 e); have cp1 := k5.cellv pp1 (fun e => HS.out.2.2.2 e)))
          have hb5 : ∀ b, v5.ownBlock = some b → dv.ownBlock = some b ∨ wr.heap.size ≤ b := fun b e => by
            rcases b5 with e1 | ⟨g, e1, e2⟩
            · exact Or.inl (e1 ▸ e)
            · rw [e1] at e; injection e with e; simp at e2; exact Or.inr (by omega)
          have HF : Hid (_ ∧ _) := HEND.out w6 v6 (acc ++ [(pa, pb)] ++ [(xa, xb)]) true (by unfold pstep geP; simp [h1, hx]) ((((Kp.refl (fun b => dv.ownBlock = some b ∨ wr.heap.size ≤ b) wr).alloc (.cells #[.int .i64 xa, .int .i64 xb] 39)).trans k5 (fun b _ e => Or.inl e)).trans k6 (fun b _ e => hb5 b e)) o6 (by rcases b6 with e | ⟨g, e1, e2⟩; (rcases b5 with e3 | ⟨g, e3, e4⟩; exact Or.inl (e.trans e3); exact Or.inr ⟨g, e.trans e3, by simp at e4; omega⟩); exact Or.inr ⟨g, e1, by have := k5.size; simp at this; omega⟩)
          clear HEND
          go_roundg (n - (k + 1))
          case rel => exact ⟨k + 1, v6, true, acc ++ [(pa, pb)] ++ [(xa, xb)], by have := HKK.out; omega, rfl, rfl, rfl, (by have := HN.out; have := HKK.out; go_num), HF⟩
          case measure => have := HKK.out; omega
        · by_cases h2 : xa = pa
          · subst h2
            by_cases h3 : pb ≤ xb
            · by_cases h4 : xb = pb
              · subst h4
                have hnq := neqP2 xa xb xa xb
                have hgd := fun x y => gdP2 .neq x y xa xb xa xb
                have hbv : ((xa == xa) && (xb == xb)) = true := by simp
                rw [hbv] at hnq
                clear hbv
                go_wp2_with (at_builtin; go_must (refine wpList_append_pair (xa := xa) (xb := xb) rfl _ _ rfl w.heap.size dv acc rfl _ rfl (by simp) HXL.out.2.2.1 (by have := HLN.out; omega) HXL.out.2.2.2 ?_); intro v5 w5 o5 k5 b5; have cx0 := k5.cellv px0 (fun e => by have h1 := (ownBlock_lt HS.out.2.2.1 e).2; exact absurd h1 (Nat.lt_irrefl _)); have cx1 := k5.cellv px1 (fun e => by have h1 := (ownBlock_lt HS.out.2.2.1 e).2; exact absurd h1 (Nat.lt_irrefl _)); have cp0 := k5.cellv pp0 (fun e => HS.out.2.2.2 e); have cp1 := k5.cellv pp1 (fun e => HS.out.2.2.2 e))
                have HF : Hid (_ ∧ _) := HEND.out w5 v5 (acc ++ [(xa, xb)]) true (by unfold pstep geP; simp) (((Kp.refl (fun b => dv.ownBlock = some b ∨ wr.heap.size ≤ b) wr).alloc (.cells #[.int .i64 xa, .int .i64 xb] 39)).trans k5 (fun b _ e => Or.inl e)) o5 (by rcases b5 with e | ⟨g, e1, e2⟩; exact Or.inl e; exact Or.inr ⟨g, e1, by simp at e2; omega⟩)
                clear HEND
                go_roundg (n - (k + 1))
                case rel => exact ⟨k + 1, v5, true, acc ++ [(xa, xb)], by have := HKK.out; omega, rfl, rfl, rfl, (by have := HN.out; have := HKK.out; go_num), HF⟩
                case measure => have := HKK.out; omega
              · have hx : ¬ (xa = xa ∧ xb = pb) := by omega
                have hnq := neqP2 xa xb xa pb
                have hgd := fun x y => gdP2 .neq x y xa xb xa pb
                have hbv : ((xa == xa) && (xb == pb)) = false := by simp; omega
                rw [hbv] at hnq
                clear hbv
                go_wp2_with (first
                  | (have m2 := m1; at_builtin; go_must (refine wpList_append_pair (xa := xa) (xb := xb) rfl _ _ rfl w.heap.size v5 (acc ++ [(xa, pb)]) rfl _ rfl (by simp) o5 (by have := HLN.out; simp; omega) (Nat.le_trans HXL.out.2.2.2 k5.size) ?_); intro v6 w6 o6 k6 b6)
                  | (at_builtin; go_must (refine wpList_append_pair (xa := xa) (xb := pb) rfl _ _ rfl w.heap.size dv acc rfl _ rfl (by simp) HXL.out.2.2.1 (by have := HLN.out; omega) HXL.out.2.2.2 ?_); intro v5 w5 o5 k5 b5; have m1 : True := trivial; have cx0 := k5.cellv px0 (fun e => by have h1 := (ownBlock_lt HS.out.2.2.1 e).2; exact absurd h1 (Nat.lt_irrefl _)); have cx1 := k5.cellv px1 (fun e => by have h1 := (ownBlock_lt HS.out.2.2.1 e).2; exact absurd h1 (Nat.lt_irrefl _)); have cp0 := k5.cellv pp0 (fun e => HS.out.2.2.2 e); have cp1 := k5.cellv pp1 (fun e => HS.out.2.2.2 e)))
                have hb5 : ∀ b, v5.ownBlock = some b → dv.ownBlock = some b ∨ wr.heap.size ≤ b := fun b e => by
                  rcases b5 with e1 | ⟨g, e1, e2⟩
                  · exact Or.inl (e1 ▸ e)
                  · rw [e1] at e; injection e with e; simp at e2; exact Or.inr (by omega)
                have HF : Hid (_ ∧ _) := HEND.out w6 v6 (acc ++ [(xa, pb)] ++ [(xa, xb)]) true (by unfold pstep geP; simp [h3, h4]) ((((Kp.refl (fun b => dv.ownBlock = some b ∨ wr.heap.size ≤ b) wr).alloc (.cells #[.int .i64 xa, .int .i64 xb] 39)).trans k5 (fun b _ e => Or.inl e)).trans k6 (fun b _ e => hb5 b e)) o6 (by rcases b6 with e | ⟨g, e1, e2⟩; (rcases b5 with e3 | ⟨g, e3, e4⟩; exact Or.inl (e.trans e3); exact Or.inr ⟨g, e.trans e3, by simp at e4; omega⟩); exact Or.inr ⟨g, e1, by have := k5.size; simp at this; omega⟩)
                clear HEND
                go_roundg (n - (k + 1))
                case rel => exact ⟨k + 1, v6, true, acc ++ [(xa, pb)] ++ [(xa, xb)], by have := HKK.out; omega, rfl, rfl, rfl, (by have := HN.out; have := HKK.out; go_num), HF⟩
                case measure => have := HKK.out; omega
            · have hx : ¬ (xa = xa ∧ xb = pb) := by omega
              have h5 : ¬ xb = pb := by omega
              have hnq := neqP2 xa xb xa pb
              have hgd := fun x y => gdP2 .neq x y xa xb xa pb
              have hbv : ((xa == xa) && (xb == pb)) = false := by simp; omega
              rw [hbv] at hnq
              clear hbv
              go_wp2_with (at_builtin; go_must (refine wpList_append_pair (xa := xa) (xb := xb) rfl _ _ rfl w.heap.size dv acc rfl _ rfl (by simp) HXL.out.2.2.1 (by have := HLN.out; omega) HXL.out.2.2.2 ?_); intro v5 w5 o5 k5 b5; have cx0 := k5.cellv px0 (fun e => by have h1 := (ownBlock_lt HS.out.2.2.1 e).2; exact absurd h1 (Nat.lt_irrefl _)); have cx1 := k5.cellv px1 (fun e => by have h1 := (ownBlock_lt HS.out.2.2.1 e).2; exact absurd h1 (Nat.lt_irrefl _)); have cp0 := k5.cellv pp0 (fun e => HS.out.2.2.2 e); have cp1 := k5.cellv pp1 (fun e => HS.out.2.2.2 e))
              have HF : Hid (_ ∧ _) := HEND.out w5 v5 (acc ++ [(xa, xb)]) false (by unfold pstep geP; have q1 : ¬ pb ≤ xb := (by omega); simp [q1, h5]) (((Kp.refl (fun b => dv.ownBlock = some b ∨ wr.heap.size ≤ b) wr).alloc (.cells #[.int .i64 xa, .int .i64 xb] 39)).trans k5 (fun b _ e => Or.inl e)) o5 (by rcases b5 with e | ⟨g, e1, e2⟩; exact Or.inl e; exact Or.inr ⟨g, e1, by simp at e2; omega⟩)
              clear HEND
              go_roundg (n - (k + 1))
              case rel => exact ⟨k + 1, v5, false, acc ++ [(xa, xb)], by have := HKK.out; omega, rfl, rfl, rfl, (by have := HN.out; have := HKK.out; go_num), HF⟩
              case measure => have := HKK.out; omega
          · have hx : ¬ (xa = pa ∧ xb = pb) := by omega
            have hnq := neqP2 xa xb pa pb
            have hgd := fun x y => gdP2 .neq x y xa xb pa pb
            have hbv : ((xa == pa) && (xb == pb)) = false := by simp; omega
            rw [hbv] at hnq
            clear hbv
            go_wp2_with (at_builtin; go_must (refine wpList_append_pair (xa := xa) (xb := xb) rfl _ _ rfl w.heap.size dv acc rfl _ rfl (by simp) HXL.out.2.2.1 (by have := HLN.out; omega) HXL.out.2.2.2 ?_); intro v5 w5 o5 k5 b5; have cx0 := k5.cellv px0 (fun e => by have h1 := (ownBlock_lt HS.out.2.2.1 e).2; exact absurd h1 (Nat.lt_irrefl _)); have cx1 := k5.cellv px1 (fun e => by have h1 := (ownBlock_lt HS.out.2.2.1 e).2; exact absurd h1 (Nat.lt_irrefl _)); have cp0 := k5.cellv pp0 (fun e => HS.out.2.2.2 e); have cp1 := k5.cellv pp1 (fun e => HS.out.2.2.2 e))
            have HF : Hid (_ ∧ _) := HEND.out w5 v5 (acc ++ [(xa, xb)]) false (by unfold pstep geP; have q1 : ¬ pa < xa := (by omega); simp [q1, h2]) (((Kp.refl (fun b => dv.ownBlock = some b ∨ wr.heap.size ≤ b) wr).alloc (.cells #[.int .i64 xa, .int .i64 xb] 39)).trans k5 (fun b _ e => Or.inl e)) o5 (by rcases b5 with e | ⟨g, e1, e2⟩; exact Or.inl e; exact Or.inr ⟨g, e1, by simp at e2; omega⟩)
            clear HEND
            go_roundg (n - (k + 1))
            case rel => exact ⟨k + 1, v5, false, acc ++ [(xa, xb)], by have := HKK.out; omega, rfl, rfl, rfl, (by have := HN.out; have := HKK.out; go_num), HF⟩
            case measure => have := HKK.out; omega
    · have hkn : k = n := by omega
      have HFL : Hid (l.foldl (pstep (pa, pb)) ([], false) = (acc, put)) := by
        have h1 := hs.1
        rw [List.take_of_length_le (by have := HN.out; omega)] at h1
        exact h1
      have HKW : Hid (Kp (fun _ => False) w wr) := hbx.2.1.trans hs.2.1 (S' := fun b => w.heap.size ≤ b ∧ b ≠ bx) (fun b hb e => by omega)
      have pp0 := hbr.cell (j := 0) rfl
      have pp1 := hbr.cell (j := 1) rfl
      have HO : Hid (wr.ownsRow w.heap.size 39 2 dv acc.length (pflat acc)) := hs.2.2.1
      clear hs hbx hbr
      cases put with
      | true =>
        have HRR : Hid (R = acc) := by
          show R = acc
          rw [HR.out]; unfold pairsP; rw [HFL.out]; rfl
        go_wp2
        go_ret
        exact ⟨dv, rfl, HKW.out, by rw [HRR.out]; exact HO.out⟩
      | false =>
        have HRR : Hid (R = acc ++ [(pa, pb)]) := by
          show R = acc ++ [(pa, pb)]
          rw [HR.out]; unfold pairsP; rw [HFL.out]; rfl
        go_wp2_with (at_builtin; go_must (refine wpList_append_pair (xa := pa) (xb := pb) rfl _ _ rfl w.heap.size dv acc rfl _ rfl (by simp) HO.out (by have := HLN.out; omega) HLN.out.2.1 ?_); intro v5 w5 o5 k5 b5)
        go_ret
        refine ⟨v5, rfl, HKW.out.trans k5 (fun b hb e => by have := (ownBlock_lt HO.out e).1; omega), by rw [HRR.out]; exact o5⟩
end Go.Proofs.Ytnpaoppfhffoiaa
