/- Texts of this proof, joined: Ng, Nh. -/
import Derived.Test.YtoepemgflbmlcaaDoorMgAE
/- frame.appendNumbers. -/
namespace Go.Proofs.YtoepemgflbmlcaaDoor
set_option linter.unusedVariables false
set_option linter.unusedSimpArgs false
open Go.RowKit Go.Deep

theorem digs_get : ∀ (w n j : Nat), j < w → (digs w n)[j]? = some (n / 256 ^ (w - 1 - j) % 256)
  | 0, n, j, h => absurd h (Nat.not_lt_zero _)
  | w + 1, n, 0, _ => by simp [digs]
  | w + 1, n, j + 1, h => by
    show (_ :: digs w n)[j + 1]? = _
    rw [List.getElem?_cons_succ, digs_get w n j (by omega)]
    congr 4
    omega
theorem numW8 {n : Nat} (h : n < 9223372036854775808) : numW n ≤ 8 := numW_le (show n < 256 ^ 8 by have : (256 : Nat) ^ 8 = 18446744073709551616 := rfl; omega)
theorem numsB_len (l : List Nat) (h : ∀ n ∈ l, n < 9223372036854775808) : (numsB l).length ≤ 9 * l.length := by
  induction l with
  | nil => simp [numsB]
  | cons n l ih =>
    have h1 := ih (fun x hx => h x (List.mem_cons_of_mem _ hx))
    have h2 := numW8 (h n (List.mem_cons_self ..))
    have : numsB (n :: l) = numB n ++ numsB l := rfl
    rw [this, List.length_append, List.length_cons]
    have : (numB n).length = numW n + 1 := by show (_ :: digs _ _).length = _; rw [List.length_cons, digs_len]
    omega
theorem numsB_take {l : List Nat} {k n : Nat} (h : l[k]? = some n) : numsB (l.take (k + 1)) = numsB (l.take k) ++ numB n := by
  rw [List.take_add_one, h, numsB_append]
  show _ ++ numsB [n] = _
  rw [numsB_one]
/-- Ow, with what is told of its block: that of v, or a new one -/
structure Ap (w w' : World) (base : Nat) (v v' : Value) (xs : List Nat) : Prop where
  o : Ow w' base v' xs
  k : Kp (fun b => v.ownBlock = some b) w w'
  b : ∀ b, v'.ownBlock = some b → v.ownBlock = some b ∨ w.heap.size ≤ b
theorem Ap.refl {w : World} {base : Nat} {v : Value} {xs : List Nat} (h : Ow w base v xs) : Ap w w base v v xs := ⟨h, Kp.refl _ _, fun _ h => Or.inl h⟩
theorem Ap.trans {w w1 w2 : World} {base : Nat} {v v1 v2 : Value} {xs ys : List Nat} (h : Ap w w1 base v v1 xs) (k : Ap w1 w2 base v1 v2 ys) : Ap w w2 base v v2 ys :=
  ⟨k.o, h.k.trans k.k (fun b hb e => by
    rcases h.b b e with q | q
    · exact q
    · exact absurd hb (Nat.not_lt.2 q)), fun b hb => by
    rcases k.b b hb with e | e
    · exact h.b b e
    · exact Or.inr (Nat.le_trans h.k.size e)⟩
/-- a new block of one byte is put behind -/
theorem Ap.one {w w1 w2 : World} {base : Nat} {v v1 v2 : Value} {xs ys : List Nat} (h : Ap w w1 base v v1 xs) (ob : Obj) (ho : Ow w2 base v2 ys) (hk : Kp (fun b => v1.ownBlock = some b) (w1.alloc ob) w2) (hb : v2.ownBlock = v1.ownBlock ∨ v2.ownBlock = some (w1.alloc ob).heap.size) : Ap w w2 base v v2 ys := by
  refine h.trans ⟨ho, ((Kp.refl _ _).alloc _).trans hk (fun b hb e => e), fun b e => ?_⟩
  rcases hb with q | q
  · exact Or.inl (q ▸ e)
  · right
    rw [q] at e
    injection e with e
    rw [← e]
    simp
theorem rb_one (w : World) (x : Nat) (hx : x < 256) : Rb (w.alloc (.cells #[.int .u8 (x : Int)] 5)) (some ⟨w.heap.size, 0, none⟩) 1 [x] := by
  have hl := Lv.new w #[.int .u8 (x : Int)] 5
  refine ⟨rfl, fun y hy => ?_, fun j hj => ⟨w.heap.size, 0, rfl, ?_⟩⟩
  · rw [List.mem_singleton] at hy
    omega
  · have : j = 0 := by omega
    subst this
    exact hl.cell (j := 0) rfl

set_option maxRecDepth 100000 in
set_option maxHeartbeats 3200000 in
theorem appN_ok (Z : Nat → Prop) (base : Nat) (v : Value) (xs ns : List Nat) (q : Option Addr) (n c : Nat) (w : World) (ho : Ow w base v xs) (hb : base ≤ w.heap.size) (hf : Fl w Z q (ns.map (fun x : Nat => Value.int .i64 (x : Int)))) (hZ : ∀ b, Z b → v.ownBlock ≠ some b ∧ b < w.heap.size) (hn : n = ns.length) (hs : ∀ x ∈ ns, x < 9223372036854775808) (hl : xs.length + 9 * ns.length ≤ 1000000000) :
    Calls Tryd.prog 52 #[v, .slice q n c] w fun e w' => ∃ v', e = .returned v' ∧ Ap w w' base v v' (xs ++ numsB ns) := by
  have HF : Hid (Fl w Z q (ns.map (fun x : Nat => Value.int .i64 (x : Int)))) := hf
  have HZ : Hid (∀ b, Z b → v.ownBlock ≠ some b ∧ b < w.heap.size) := hZ
  have HN : Hid (n = ns.length ∧ xs.length + 9 * ns.length ≤ 1000000000 ∧ base ≤ w.heap.size) := ⟨hn, hl, hb⟩
  have HS : Hid (∀ x ∈ ns, x < 9223372036854775808) := hs
  have HO : Hid (Ow w base v xs) := ho
  have hn9' : (n : Int) ≤ 1000000000 := by omega
  have HLn : Hid (∀ x, x < 18446744073709551616 → ∀ u, Calls _ _ _ u _) := fun x hx u => len64_ok x hx u
  clear hf hZ hn hs hl hb ho
  go_enter Tryd.func52, Tryd.ntmps52
  go_wp2_with fail
  go_loopg [0, 11] n (fun gk bv iv wz => ∃ (k : Nat) (v1 : Value), k ≤ n ∧ gk = n - k ∧ iv = .int .i64 k ∧ v1 = bv ∧ Hid (Ap w wz base v v1 (xs ++ numsB (ns.take k))))
  case atStart => exact ⟨0, v, Nat.zero_le _, rfl, rfl, rfl, by rw [List.take_zero]; show Ap _ _ _ _ _ (xs ++ []); rw [List.append_nil]; exact Ap.refl HO.out⟩
  case round =>
    obtain ⟨k, v1, hk, rfl, rfl, rfl, HA⟩ := hrel
    by_cases hlt : (k : Int) < (n : Int)
    · have hkl : k < ns.length := by have := HN.out; omega
      obtain ⟨x, hx⟩ : ∃ x, ns[k]? = some x := ⟨_, List.getElem?_eq_getElem hkl⟩
      have hx9 : x < 9223372036854775808 := HS.out x (List.mem_of_getElem? hx)
      obtain ⟨b, o, rfl, hzb, hc⟩ := HF.out k (.int .i64 (x : Int)) (by rw [List.getElem?_map, hx]; rfl)
      have hc' : wr.cell? ⟨b, o + k, none⟩ = some (.int .i64 (x : Int)) := HA.out.k.cellv hc (HZ.out b hzb).1
      have HX : Hid (ns[k]? = some x) := hx
      have HKi : Hid (wrap64 ((k : Int) + 1) = ((k + 1 : Nat) : Int)) := wrapK9 (by have := HN.out; omega)
      have hx9' : (x : Int) < 9223372036854775808 := by omega
      have HC1 : Hid (Calls _ _ _ wr _) := HLn.out x (by omega) wr
      clear hc hx hkl hzb
      go_upto_region 5 with (go_at_call 65; refine HC1.out.mono ?_; rintro e9 w9 ⟨rfl, hw9⟩; have hw8 := hw9.symm; subst hw8; clear hw9)
      obtain ⟨W, hW⟩ : ∃ W, W = numW x := ⟨_, rfl⟩
      have hW8 : W ≤ 8 := by rw [hW]; exact numW8 hx9
      have HW : Hid (W = numW x) := hW
      have HWd : Hid (wrap64 ((wrap64 ((blen x : Int) + 7)).tdiv 8) = (W : Int)) := by
        show _ = _
        have h1 := blen_numW x
        have h2 : blen x ≤ 64 := blen_le (show x < 2 ^ 64 by have : (2 : Nat) ^ 64 = 18446744073709551616 := rfl; omega)
        have h3 : wrap64 ((blen x : Int) + 7) = (blen x : Int) + 7 := wrap_small (by omega)
        rw [h3, Int.tdiv_eq_ediv_of_nonneg (by omega), wrap_small (by omega)]
        omega
      rw [HWd.out]
      have hW8' : (W : Int) ≤ 8 := by omega
      have HLe : Hid ((xs ++ numsB (ns.take k)).length ≤ 1000000000 - 9) := by
        show _ ≤ _
        have h1 := numsB_len (ns.take k) (fun y hy => HS.out y (List.mem_of_mem_take hy))
        rw [List.length_take] at h1
        rw [List.length_append]
        have := HN.out
        omega
      have HBs : Hid (base ≤ wr.heap.size) := Nat.le_trans HN.out.2.2 HA.out.k.size
      clear hW hc'
      go_wp2_with (at_builtin; refine wpList_append_bytes _ rfl _ _ rfl base v1 (xs ++ numsB (ns.take k)) rfl (HA.out.o.alloc _) (some ⟨wr.heap.size, 0, none⟩) 1 1 [W] rfl (rb_one wr W (by omega)) (by have := HLe.out; omega) (by have := HBs.out; simp; omega) ?_; intro v2 w2 ho2 k2 hb2)
      have HA2 : Hid (Ap w w2 base v v2 (xs ++ numsB (ns.take k) ++ [W])) := HA.out.one _ ho2 k2 hb2
      clear ho2 k2 hb2
      go_loopg [0, 8] W (fun gk bv lv wz => ∃ (j : Nat) (v3 : Value), j ≤ W ∧ gk = W - j ∧ lv = .int .i64 ((W : Int) - 1 - j) ∧ v3 = bv ∧ Hid (Ap w wz base v v3 (xs ++ numsB (ns.take k) ++ (W :: (digs W x).take j))))
      case atStart => exact ⟨0, v2, Nat.zero_le _, rfl, by first | rfl | (congr 1; omega) | go_num, rfl, HA2.out⟩
      case round =>
        obtain ⟨j, v3, hj, rfl, rfl, rfl, HA3⟩ := hrel
        by_cases hjw : j < W
        · obtain ⟨L, hL⟩ : ∃ L : Nat, (W : Int) - 1 - j = (L : Int) := ⟨W - 1 - j, by omega⟩
          rw [hL]
          have hL8 : (L : Int) ≤ 7 := by omega
          have hL0 : ¬ (L : Int) < 0 := by omega
          obtain ⟨d, hd⟩ : ∃ d : Nat, d = x / 256 ^ L % 256 := ⟨_, rfl⟩
          have HD : Hid ((x : Int) / 2 ^ (8 * L) % 256 = (d : Int)) := by
            show _ = _
            rw [hd, show (256 : Nat) ^ L = 2 ^ (8 * L) by rw [show (256 : Nat) = 2 ^ 8 from rfl, ← Nat.pow_mul]]
            rw [Int.natCast_emod, Int.natCast_ediv, Int.natCast_pow]
            rfl
          have HDg : Hid ((digs W x).take (j + 1) = (digs W x).take j ++ [d]) := by
            show _ = _
            have : W - 1 - j = L := by omega
            rw [List.take_add_one, digs_get W x j hjw, this, hd]
            rfl
          have HD9 : Hid (d < 256) := by rw [hd]; exact Nat.mod_lt _ (by decide)
          have HLt : Hid ((xs ++ numsB (ns.take k) ++ (W :: (digs W x).take j)).length ≤ 1000000000) := by
            show _ ≤ _
            have := HLe.out
            rw [List.length_append, List.length_cons, List.length_take, digs_len]
            omega
          have HBt : Hid (base ≤ wr.heap.size) := Nat.le_trans HN.out.2.2 HA3.out.k.size
          clear hd
          go_wp2_with (at_builtin; rw [HD.out]; refine wpList_append_bytes _ rfl _ _ rfl base v3 (xs ++ numsB (ns.take k) ++ (W :: (digs W x).take j)) rfl (HA3.out.o.alloc _) (some ⟨wr.heap.size, 0, none⟩) 1 1 [d] rfl (rb_one wr d HD9.out) (by have := HLt.out; omega) (by have := HBt.out; simp; omega) ?_; intro v4 w4 ho4 k4 hb4)
          have HA4 : Hid (Ap w w4 base v v4 (xs ++ numsB (ns.take k) ++ (W :: (digs W x).take j) ++ [d])) := HA3.out.one _ ho4 k4 hb4
          clear ho4 k4 hb4
          go_roundg (W - (j + 1))
          case rel =>
            refine ⟨j + 1, v4, by omega, rfl, by first | rfl | (congr 1; omega), rfl, ?_⟩
            show Ap _ _ _ _ _ _
            rw [HDg.out]
            have := HA4.out
            rw [List.append_assoc] at this
            exact this
          case measure => omega
        · have hjw2 : j = W := by omega
          subst hjw2
          have HA5 : Hid (Ap w wr base v v3 (xs ++ numsB (ns.take (k + 1)))) := by
            show Ap _ _ _ _ _ _
            have := HA3.out
            have ht : (digs j x).take j = digs j x := List.take_of_length_le (by rw [digs_len]; exact Nat.le_refl _)
            rw [ht] at this
            rw [numsB_take HX.out, ← List.append_assoc]
            show Ap _ _ _ _ _ (_ ++ (numW x :: digs (numW x) x))
            rw [← HW.out]
            exact this
          have hneg : ((j : Int) - 1 - j) < 0 := by omega
          have hneg2 : ((j : Int) - 1 - j) = -1 := by omega
          rw [hneg2]
          go_wp2_with fail
          go_roundg (n - (k + 1))
          case rel => exact ⟨k + 1, v3, by omega, rfl, by first | rw [HKi.out] | rfl | go_num, rfl, HA5.out⟩
          case measure => omega
    · have hkn : ns.take k = ns := List.take_of_length_le (by have := HN.out; omega)
      rw [hkn] at HA
      clear hkn
      go_wp2_with fail
      go_ret
      exact ⟨v1, rfl, HA.out⟩
end Go.Proofs.YtoepemgflbmlcaaDoor

/- frame.mayCmd (laid by scripts/mknh.py). -/
namespace Go.Proofs.YtoepemgflbmlcaaDoor
set_option linter.unusedVariables false
set_option linter.unusedSimpArgs false
open Go.RowKit Go.Deep

/-- a command that may be -/
def mayC (c : Cs0) (zs : List Int) : Bool := decide (c.key.size ≤ 8) && (decide (zs.length ≤ 255) && (decide (0 ≤ c.kind) && (decide (c.kind ≤ 12) && (upTo 1152921504606846976 [c.id, c.blob, c.other, c.index, c.size] && (upTo 255 [c.k, c.m] && (upTo 15 [c.node] && upTo 15 zs))))))
/-- allUpTo of a list that was made just now -/
theorem allUpTo_new (most : Int) (zs : List Int) (n : Nat) (hn : n = zs.length) (hn9 : n ≤ 1000) (u : World) : Calls Tryd.prog 51 #[.int .i64 most, .slice (some ⟨u.heap.size, 0, none⟩) n n] (u.alloc (.cells (zs.map encI).toArray 3)) fun e w' => e = .returned (.bool (upTo most zs)) ∧ Kp (fun _ => False) u w' := by
  have hl := Lv.new u (zs.map encI).toArray 3
  refine (allUpTo_ok (fun _ => True) most (some ⟨u.heap.size, 0, none⟩) n n zs _ (fun j v hj => ⟨_, _, rfl, trivial, ?_⟩) hn (by omega)).mono ?_
  · rw [Nat.zero_add]
    exact hl.cell hj
  · rintro e w' ⟨rfl, rfl⟩
    exact ⟨rfl, (Kp.refl _ _).alloc _⟩

set_option maxRecDepth 100000 in
set_option maxHeartbeats 6400000 in
theorem mayCmd_ok (c : Cs0) (Z : Nat → Prop) (p : Option Addr) (n cap : Nat) (zs : List Int) (w : World) (h : Fl w Z p (zs.map encI)) (hn : n = zs.length) (hn9 : n ≤ 1000000000000000) (hk9 : c.key.size ≤ 9223372036854775807) :
    Calls Tryd.prog 23 #[.agg (cmdA c (.slice p n cap))] w fun e w' => e = .returned (.bool (mayC c zs)) ∧ Kp (fun _ => False) w w' := by
  have HU5 : Hid (∀ u : World, Calls Tryd.prog 51 #[.int .i64 1152921504606846976, .slice (some ⟨u.heap.size, 0, none⟩) 5 5] (u.alloc (.cells #[.int .i64 c.id, .int .i64 c.blob, .int .i64 c.other, .int .i64 c.index, .int .i64 c.size] 3)) fun e w' => e = .returned (.bool (upTo 1152921504606846976 [c.id, c.blob, c.other, c.index, c.size])) ∧ Kp (fun _ => False) u w') := fun u => allUpTo_new 1152921504606846976 [c.id, c.blob, c.other, c.index, c.size] 5 rfl (by decide) u
  have HU2 : Hid (∀ u : World, Calls Tryd.prog 51 #[.int .i64 255, .slice (some ⟨u.heap.size, 0, none⟩) 2 2] (u.alloc (.cells #[.int .i64 c.k, .int .i64 c.m] 3)) fun e w' => e = .returned (.bool (upTo 255 [c.k, c.m])) ∧ Kp (fun _ => False) u w') := fun u => allUpTo_new 255 [c.k, c.m] 2 rfl (by decide) u
  have HU1 : Hid (∀ u : World, Calls Tryd.prog 51 #[.int .i64 15, .slice (some ⟨u.heap.size, 0, none⟩) 1 1] (u.alloc (.cells #[.int .i64 c.node] 3)) fun e w' => e = .returned (.bool (upTo 15 [c.node])) ∧ Kp (fun _ => False) u w') := fun u => allUpTo_new 15 [c.node] 1 rfl (by decide) u
  have HUz : Hid (n ≤ 255 → ∀ u, Kp (fun _ => False) w u → Calls Tryd.prog 51 #[.int .i64 15, .slice p n cap] u fun e w' => e = .returned (.bool (upTo 15 zs)) ∧ w' = u) := fun h9 u ku => allUpTo_ok Z 15 p n cap zs u (h.keep ku (fun _ _ => id)) hn (by omega)
  obtain ⟨R, hR⟩ : ∃ R, R = mayC c zs := ⟨_, rfl⟩
  have HR : Hid (R = mayC c zs) := hR
  have HN : Hid (n = zs.length) := hn
  rw [← hR]
  obtain ⟨b5, hb5⟩ : ∃ b, b = upTo 1152921504606846976 [c.id, c.blob, c.other, c.index, c.size] := ⟨_, rfl⟩
  obtain ⟨b2, hb2⟩ : ∃ b, b = upTo 255 [c.k, c.m] := ⟨_, rfl⟩
  obtain ⟨b1, hb1⟩ : ∃ b, b = upTo 15 [c.node] := ⟨_, rfl⟩
  obtain ⟨bz, hbz⟩ : ∃ b, b = upTo 15 zs := ⟨_, rfl⟩
  have HRR : Hid (R = (decide (c.key.size ≤ 8) && (decide (n ≤ 255) && (decide (0 ≤ c.kind) && (decide (c.kind ≤ 12) && (b5 && (b2 && (b1 && bz)))))))) := by show _ = _; rw [hR, hb5, hb2, hb1, hbz, hn]; rfl
  rw [← hb5] at HU5
  rw [← hb2] at HU2
  rw [← hb1] at HU1
  rw [← hbz] at HUz
  clear h hn hR hb5 hb2 hb1 hbz HR
  obtain ⟨idd, kind, key, blob, other, index, node, size, sum, kk, mm⟩ := c
  dsimp only at HRR hk9 HU5 HU2 HU1
  have HK0 : Hid (Kp (fun _ => False) w (w.alloc (.cells (cmdA ⟨idd, kind, key, blob, other, index, node, size, sum, kk, mm⟩ (.slice p n cap)) 27))) := (Kp.refl _ _).alloc _
  have HL0 : Hid (Lv (w.alloc (.cells (cmdA ⟨idd, kind, key, blob, other, index, node, size, sum, kk, mm⟩ (.slice p n cap)) 27)) w.heap.size (cmdA ⟨idd, kind, key, blob, other, index, node, size, sum, kk, mm⟩ (.slice p n cap)).toList) := Lv.new w _ _
  have hks : (key.size : Int) ≤ 9223372036854775807 := by omega
  have hns : (n : Int) ≤ 1000000000000000 := by omega
  go_enter Tryd.func23, Tryd.ntmps23
  go_upto_region 1 with fail
  obtain ⟨u0, hu0⟩ : ∃ x, x = w.alloc (.cells (cmdA ⟨idd, kind, key, blob, other, index, node, size, sum, kk, mm⟩ (.slice p n cap)) 27) := ⟨_, rfl⟩
  have hu0' := hu0.symm
  simp only [cmdA] at hu0'
  rw [hu0']
  rw [← hu0] at HK0 HL0
  clear hu0 hu0'
  obtain ⟨g, hg⟩ : ∃ x, x = w.heap.size := ⟨_, rfl⟩
  rw [← hg] at HL0 ⊢
  clear hg
  have c0 : u0.cell? ⟨g, 0, none⟩ = some (.int .i64 idd) := HL0.out.cell (j := 0) rfl
  have c1 : u0.cell? ⟨g, 1, none⟩ = some (.int .i64 kind) := HL0.out.cell (j := 1) rfl
  have c2 : u0.cell? ⟨g, 2, none⟩ = some (.string key) := HL0.out.cell (j := 2) rfl
  have c3 : u0.cell? ⟨g, 3, none⟩ = some (.int .i64 blob) := HL0.out.cell (j := 3) rfl
  have c4 : u0.cell? ⟨g, 4, none⟩ = some (.int .i64 other) := HL0.out.cell (j := 4) rfl
  have c5 : u0.cell? ⟨g, 5, none⟩ = some (.int .i64 index) := HL0.out.cell (j := 5) rfl
  have c6 : u0.cell? ⟨g, 6, none⟩ = some (.int .i64 node) := HL0.out.cell (j := 6) rfl
  have c7 : u0.cell? ⟨g, 7, none⟩ = some (.int .i64 size) := HL0.out.cell (j := 7) rfl
  have c9 : u0.cell? ⟨g, 9, none⟩ = some (.int .i64 kk) := HL0.out.cell (j := 9) rfl
  have c10 : u0.cell? ⟨g, 10, none⟩ = some (.int .i64 mm) := HL0.out.cell (j := 10) rfl
  have c11 : u0.cell? ⟨g, 11, none⟩ = some (.slice p n cap) := HL0.out.cell (j := 11) rfl
  by_cases q0 : (key.size : Int) ≤ 8
  · by_cases q1 : (n : Int) ≤ 255
    · by_cases q2 : (0 : Int) ≤ kind
      · by_cases q3 : kind ≤ 12
        · go_wp2_with fail
          refine (HU5.out u0).mono ?_
          rintro e9 v1 ⟨rfl, k9⟩
          have HKa : Hid (Kp (fun _ => False) w v1) := HK0.out.trans k9 (fun _ _ e => e)
          have HLa : Hid (Lv v1 g _) := HL0.out.keep k9 id
          have d6 : v1.cell? ⟨g, 6, none⟩ = some (.int .i64 node) := HLa.out.cell (j := 6) rfl
          have d9 : v1.cell? ⟨g, 9, none⟩ = some (.int .i64 kk) := HLa.out.cell (j := 9) rfl
          have d10 : v1.cell? ⟨g, 10, none⟩ = some (.int .i64 mm) := HLa.out.cell (j := 10) rfl
          have d11 : v1.cell? ⟨g, 11, none⟩ = some (.slice p n cap) := HLa.out.cell (j := 11) rfl
          clear k9
          cases b5 with
          | true =>
            go_wp2_with fail
            refine (HU2.out v1).mono ?_
            rintro e9 v2 ⟨rfl, k9⟩
            have HKb : Hid (Kp (fun _ => False) w v2) := HKa.out.trans k9 (fun _ _ e => e)
            have HLb : Hid (Lv v2 g _) := HLa.out.keep k9 id
            have f6 : v2.cell? ⟨g, 6, none⟩ = some (.int .i64 node) := HLb.out.cell (j := 6) rfl
            have f11 : v2.cell? ⟨g, 11, none⟩ = some (.slice p n cap) := HLb.out.cell (j := 11) rfl
            clear k9
            cases b2 with
            | true =>
              go_wp2_with fail
              refine (HU1.out v2).mono ?_
              rintro e9 v3 ⟨rfl, k9⟩
              have HKc : Hid (Kp (fun _ => False) w v3) := HKb.out.trans k9 (fun _ _ e => e)
              have HLc : Hid (Lv v3 g _) := HLb.out.keep k9 id
              have i11 : v3.cell? ⟨g, 11, none⟩ = some (.slice p n cap) := HLc.out.cell (j := 11) rfl
              clear k9
              cases b1 with
              | true =>
                go_wp2_with fail
                refine (HUz.out (by omega) _ HKc.out).mono ?_
                rintro e9 v4 ⟨rfl, hv4⟩
                have hv5 := hv4.symm
                subst hv5
                clear hv4
                cases bz with
                | true =>
                  have HV : Hid (R = true) := by
                    show _ = _
                    rw [HRR.out]
                    rw [decide_eq_true (show key.size ≤ 8 from by omega)]
                    rw [decide_eq_true (show n ≤ 255 from by omega)]
                    rw [decide_eq_true (show (0 : Int) ≤ kind from by omega)]
                    rw [decide_eq_true (show kind ≤ 12 from by omega)]
                    simp
                  clear HRR
                  go_wp2_with fail
                  go_ret
                  exact ⟨by rw [HV.out]; rfl, HKc.out⟩
                | false =>
                  have HV : Hid (R = false) := by
                    show _ = _
                    rw [HRR.out]
                    rw [decide_eq_true (show key.size ≤ 8 from by omega)]
                    rw [decide_eq_true (show n ≤ 255 from by omega)]
                    rw [decide_eq_true (show (0 : Int) ≤ kind from by omega)]
                    rw [decide_eq_true (show kind ≤ 12 from by omega)]
                    simp
                  clear HRR
                  go_wp2_with fail
                  go_ret
                  exact ⟨by rw [HV.out]; rfl, HKc.out⟩
              | false =>
                have HV : Hid (R = false) := by
                  show _ = _
                  rw [HRR.out]
                  rw [decide_eq_true (show key.size ≤ 8 from by omega)]
                  rw [decide_eq_true (show n ≤ 255 from by omega)]
                  rw [decide_eq_true (show (0 : Int) ≤ kind from by omega)]
                  rw [decide_eq_true (show kind ≤ 12 from by omega)]
                  simp
                clear HRR
                go_wp2_with fail
                go_ret
                exact ⟨by rw [HV.out]; rfl, HKc.out⟩
            | false =>
              have HV : Hid (R = false) := by
                show _ = _
                rw [HRR.out]
                rw [decide_eq_true (show key.size ≤ 8 from by omega)]
                rw [decide_eq_true (show n ≤ 255 from by omega)]
                rw [decide_eq_true (show (0 : Int) ≤ kind from by omega)]
                rw [decide_eq_true (show kind ≤ 12 from by omega)]
                simp
              clear HRR
              go_wp2_with fail
              go_ret
              exact ⟨by rw [HV.out]; rfl, HKb.out⟩
          | false =>
            have HV : Hid (R = false) := by
              show _ = _
              rw [HRR.out]
              rw [decide_eq_true (show key.size ≤ 8 from by omega)]
              rw [decide_eq_true (show n ≤ 255 from by omega)]
              rw [decide_eq_true (show (0 : Int) ≤ kind from by omega)]
              rw [decide_eq_true (show kind ≤ 12 from by omega)]
              simp
            clear HRR
            go_wp2_with fail
            go_ret
            exact ⟨by rw [HV.out]; rfl, HKa.out⟩
        · have HV : Hid (R = false) := by
            show _ = _
            rw [HRR.out]
            rw [decide_eq_true (show key.size ≤ 8 from by omega)]
            rw [decide_eq_true (show n ≤ 255 from by omega)]
            rw [decide_eq_true (show (0 : Int) ≤ kind from by omega)]
            rw [decide_eq_false (show ¬ kind ≤ 12 from by omega)]
            simp
          clear HRR
          go_wp2_with fail
          go_ret
          exact ⟨by rw [HV.out]; rfl, HK0.out⟩
      · have HV : Hid (R = false) := by
          show _ = _
          rw [HRR.out]
          rw [decide_eq_true (show key.size ≤ 8 from by omega)]
          rw [decide_eq_true (show n ≤ 255 from by omega)]
          rw [decide_eq_false (show ¬ (0 : Int) ≤ kind from by omega)]
          simp
        clear HRR
        go_wp2_with fail
        go_ret
        exact ⟨by rw [HV.out]; rfl, HK0.out⟩
    · have HV : Hid (R = false) := by
        show _ = _
        rw [HRR.out]
        rw [decide_eq_true (show key.size ≤ 8 from by omega)]
        rw [decide_eq_false (show ¬ n ≤ 255 from by omega)]
        simp
      clear HRR
      go_wp2_with fail
      go_ret
      exact ⟨by rw [HV.out]; rfl, HK0.out⟩
  · have HV : Hid (R = false) := by
      show _ = _
      rw [HRR.out]
      rw [decide_eq_false (show ¬ key.size ≤ 8 from by omega)]
      simp
    clear HRR
    go_wp2_with fail
    go_ret
    exact ⟨by rw [HV.out]; rfl, HK0.out⟩
end Go.Proofs.YtoepemgflbmlcaaDoor
