/- A piece's sector. -/
import Derived.Test.YtippipeebkkghaaGreatDoorAk
import Derived.Laws.CopyOwn
import Derived.StillTailTactics
namespace Go.Proofs.YtippipeebkkghaaGreatDoor
set_option linter.unusedVariables false
set_option linter.unusedSimpArgs false
open Go.RowKit Go.Deep

theorem mixedW : Tryz.prog.follows .mixedOrders = true := by kernel_rfl
theorem wpList_copy_bk {w : World} {ops : Array Oper} {rest : List Oper} {o : Oper} {a : Act} {Q : Exit → Act → World → Prop} (hgd : o.guard = none) (dd s : Operand)
    (ho : o.op = .call { callee := .builtin .copy, args := #[dd, s], argTypes := #[75, 75] }) (base g cap N : Nat) (xs : List Nat) (x : Bk w base g cap N xs) (off dLen dc : Nat) (p : Option Addr) (n c : Nat) (ys : List Nat)
    (hd : a.eval dd = .slice (some ⟨g, off, none⟩) dLen dc) (hs : a.eval s = .slice p n c) (hr : Rb w p n ys) (h0 : 0 < n) (hn : n ≤ dLen) (hfit : off + n ≤ N)
    (h : ∀ w', Kp (fun b => b = g) w w' → Bk w' base g cap N (spl xs off ys) → wpList Tryz.prog ops Q rest (a.put o.dst (goInt n)) w') : wpList Tryz.prog ops Q (o :: rest) a w := by
  obtain ⟨br, ob, rfl, hcl⟩ := hr.pt h0
  have hl : (vl ys).length = n := by rw [vl_length, hr.len]
  obtain ⟨h1, h2⟩ := x.ow
  rcases h2 with ⟨h0', _⟩ | ⟨g', cap', cur, hv, hbg, hh, hnn, hcap, hsz, htake⟩
  · cases h0'
  · cases hv
    have hsz' : N ≤ cur.size := by omega
    refine wpList_copy_own (P := Tryz.prog) hgd dd s 75 75 ho 5 Tryz.underlying75 (by kernel_rfl) g off dLen dc ⟨br, ob, none⟩ n c hd hs cur 5 hh (vl ys) (by rw [hl]; exact (Nat.min_eq_left hn).symm) (fun j v hj => by
      have hj' : j < n := by have := (List.getElem?_eq_some_iff.1 hj).1; omega
      rw [vl_get (by rw [hr.len]; exact hj')] at hj
      rw [Addr.add_mid, ← Option.some.inj hj]
      exact hcl j hj') (by rw [hl]; omega) (vl_one ys) ?_
    rw [hl]
    have hys : ys.length = n := hr.len
    refine h _ ⟨rfl, rfl, rfl, by simp [World.setRow], fun k _ hne => setRow_other w g k _ hne⟩ ⟨by rw [spl_len (by rw [hys, x.len]; exact hfit)]; exact x.len, spl_byte x.byte hr.byte, ?_, Or.inr ⟨g, cap, _, rfl, hbg, setRow_heap w g cur _ _ _ hh, hnn, hcap, ?_, ?_⟩⟩
    · rw [vl_length, spl_len (by rw [hys, x.len]; exact hfit), x.len]; omega
    · simp [hl]; omega
    · dsimp only
      have hL : cur.toList = vl xs ++ cur.toList.drop (N * 1) := by rw [← htake, List.take_append_drop]
      have hxl : (vl xs).length = N := by rw [vl_length]; exact x.len
      have e1 : cur.toList.take off = (vl xs).take off := by rw [hL, List.take_append_of_le_length (by omega)]
      have e2 : cur.toList.drop (off + n) = (vl xs).drop (off + n) ++ cur.toList.drop (N * 1) := by
        conv => lhs; rw [hL]
        rw [List.drop_append_of_le_length (by omega)]
      have e3 : vl (spl xs off ys) = (vl xs).take off ++ (vl ys ++ (vl xs).drop (off + n)) := by
        unfold spl
        rw [vl_append, vl_append, List.append_assoc, hys]
        unfold vl
        rw [List.map_take, List.map_drop]
      have e4 : (vl (spl xs off ys)).length = N * 1 := by rw [vl_length, spl_len (by rw [hys, x.len]; exact hfit), x.len]; omega
      rw [e1, e2, ← List.append_assoc (vl ys), ← List.append_assoc, ← e3, ← e4]
      exact List.take_left
/-- a piece's parts, without the sum and the last byte -/
def pcP (u : Nat) (ys : List Nat) (f l : Bool) : List Nat := spl ((((spl ((nouW 64).set 0 114) 1 (big u 8)).set 9 ys.length).set 10 f.toNat).set 11 l.toNat) 12 ys
def pcB (u : Nat) (ys : List Nat) (f l : Bool) : List Nat := sealB (pcP u ys f l)
/-- an int in 64 bits -/
def u64Of (z : Int) : Nat := (z % 18446744073709551616).toNat
theorem u64Of_wrap (z : Int) : IntKind.u64.wrap z = ((u64Of z : Nat) : Int) := by
  unfold u64Of
  rw [Int.toNat_of_nonneg (Int.emod_nonneg _ (by decide))]
  simp [IntKind.wrap, IntKind.bits, IntKind.signed]
theorem u64Of_lt (z : Int) : u64Of z < 18446744073709551616 := by
  unfold u64Of
  have := Int.emod_lt_of_pos z (b := 18446744073709551616) (by decide)
  have := Int.emod_nonneg z (b := 18446744073709551616) (by decide)
  omega
abbrev pcV (z : Int) (v : Value) (f l : Bool) : Value := .agg #[.int .i64 z, v, .bool f, .bool l]

set_option maxRecDepth 100000 in
set_option maxHeartbeats 1600000 in
theorem psector_ok (z : Int) (p : Option Addr) (n c : Nat) (ys : List Nat) (f l : Bool) (w : World) (h : Rb w p n ys) (h0 : 0 < n) (hn : (n : Int) ≤ 40) (ht : Turns w) :
    Calls Tryz.prog 169 #[pcV z (.slice p n c) f l] w fun e w' => ∃ g, w.heap.size ≤ g ∧ e = .returned (.slice (some ⟨g, 0, none⟩) 64 64) ∧ Kp (fun _ => False) w w' ∧ Bk w' w.heap.size g 64 64 (pcB (u64Of z) ys f l) := by
  have HN : Hid (0 < n ∧ n ≤ 40 ∧ ys.length = n) := ⟨h0, by omega, h.len⟩
  have hz := u64Of_wrap z
  have HR : Hid (Rb w p n ys) := h
  have HT : Hid (Turns w) := ht
  obtain ⟨r, hr⟩ : ∃ r, r = w.heap.size := ⟨_, rfl⟩
  obtain ⟨w0, hw0⟩ : ∃ y, y = w.alloc (.cells #[.int .i64 z, .slice p n c, .bool f, .bool l] 272) := ⟨_, rfl⟩
  have HL0 : Hid (Lv w0 r [.int .i64 z, .slice p n c, .bool f, .bool l]) := by rw [hw0, hr]; exact Lv.new w _ _
  have k0 : Kp (fun _ => False) w w0 := by rw [hw0]; exact (Kp.refl _ _).alloc _
  have z0 : w0.heap.size = w.heap.size + 1 := by rw [hw0]; simp
  have HK0 : Hid (Kp (fun _ => False) w w0 ∧ w0.heap.size = w.heap.size + 1 ∧ r = w.heap.size) := ⟨k0, z0, hr⟩
  have hwn : IntKind.u8.wrap (n : Int) = (n : Int) := by simp [IntKind.wrap, IntKind.bits, IntKind.signed]; omega
  have sl1 : ∀ g (w : World), (Instr.slice 75 (.slice (some ⟨g, 0, none⟩) 64 64) (some (.int .i64 1)) (some (.int .i64 9)) none).run Tryz.prog w = .ok (.slice (some ⟨g, 1, none⟩) 8 63) w := fun g w => by
    have := sliceLH g 0 64 64 1 9 (by omega) (by omega) (by omega) w
    rw [Nat.zero_add] at this
    exact this
  have sl2 : ∀ g (w : World), (Instr.slice 75 (.slice (some ⟨g, 0, none⟩) 64 64) (some (.int .i64 12)) none none).run Tryz.prog w = .ok (.slice (some ⟨g, 12, none⟩) 52 52) w := fun g w => by
    have := sliceL g 0 64 64 12 (by omega) (by omega) w
    rw [Nat.zero_add] at this
    exact this
  clear h h0 hn ht k0 z0
  go_enter Tryz.func169, Tryz.ntmps169
  go_upto_region 1 with fail
  rw [← hw0, ← hr]
  clear hw0 hr
  go_wp2_with fail
  refine (blankS_ok w0).mono ?_
  rintro e9 w1 ⟨g, hg, rfl, k1, x1⟩
  have HG : Hid (w.heap.size ≤ g ∧ g ≠ r ∧ Kp (fun _ => False) w w1) := ⟨by have := HK0.out; omega, by have := HK0.out; omega, HK0.out.1.trans k1 (fun _ _ e => e)⟩
  have HL1 : Hid (Lv w1 r [.int .i64 z, .slice p n c, .bool f, .bool l]) := HL0.out.keep k1 id
  have f0 := x1.fz 0
  have c0 := x1.cell (j := 0) (by omega)
  obtain ⟨w2, hw2⟩ : ∃ y, y = w1.setCell ⟨g, 0, none⟩ (.int .u8 114) := ⟨_, rfl⟩
  have x2 := x1.set (j := 0) (y := 114) (by omega) (by omega)
  have k2 : Kp (fun b => b = g) w1 w2 := by rw [hw2]; exact kp_set
  rw [show ((114 : Nat) : Int) = 114 from rfl, ← hw2] at x2
  have HB2 : Hid (Bk w2 w0.heap.size g 64 64 ((nouW 64).set 0 114)) := x2
  have HK2 : Hid (Kp (fun b => b = g) w1 w2) := k2
  have HL2 : Hid (Lv w2 r [.int .i64 z, .slice p n c, .bool f, .bool l]) := HL1.out.keep k2 (fun e => HG.out.2.1 e.symm)
  have HP2 : Hid (∀ u, Kp (fun _ => False) w2 u → Calls Tryz.prog 207 #[.slice (some ⟨g, 1, none⟩) 8 63, .int .u64 ((u64Of z : Nat) : Int)] u fun e w' => e = .returned (.tuple #[]) ∧ Kp (fun b => b = g) u w' ∧ Bk w' w0.heap.size g 64 64 (spl ((nouW 64).set 0 114) 1 (big (u64Of z) 8))) := fun u k => putNumber_ok (HB2.out.keep0 k) 1 8 63 (u64Of z) (by omega) (by omega) (by omega) (u64Of_lt z)
  have q0 := HL2.out.cell (j := 0) rfl
  have hs1 := sl1 g
  clear x1 x2 k1 k2 hg HL1 sl1
  go_upto_region 3 with fail
  rw [← hw2]
  clear hw2 f0 c0
  have kd : Kp (fun _ => False) w2 w2 := Kp.refl _ _
  go_region_with (go_at_call 207; refine (HP2.out _ kd.drew).mono ?_; rintro e9 w3 ⟨rfl, k3, x3⟩)
  have HK3 : Hid (Kp (fun b => b = g) w1 w3) := HK2.out.trans ((kd.drew.mono (fun _ _ e => e.elim)).trans k3 (fun _ _ e => e)) (fun _ _ e => e)
  have HB3 : Hid (Bk w3 w0.heap.size g 64 64 (spl ((nouW 64).set 0 114) 1 (big (u64Of z) 8))) := x3
  have hl3 : Lv w3 r [.int .i64 z, .slice p n c, .bool f, .bool l] := HL2.out.keep ((kd.drew.mono (fun _ _ e => e.elim)).trans k3 (fun _ _ e => e)) (fun e => HG.out.2.1 e.symm)
  have HL3 : Hid (Lv w3 r [.int .i64 z, .slice p n c, .bool f, .bool l]) := hl3
  have q1 := hl3.cell (j := 1) rfl
  have f9 := HB3.out.fz 9
  have c9 := HB3.out.cell (j := 9) (by omega)
  clear k3 x3 hl3 kd HP2 HB2 HL2 q0 hs1 HK2
  go_upto_region 5 with fail
  obtain ⟨w4, hw4⟩ : ∃ y, y = w3.setCell ⟨g, 9, none⟩ (.int .u8 (n : Int)) := ⟨_, rfl⟩
  have x4 := HB3.out.set (j := 9) (y := n) (by omega) (by have := HN.out; omega)
  have k4 : Kp (fun b => b = g) w3 w4 := by rw [hw4]; exact kp_set
  rw [← hw4] at x4
  have HB4 : Hid (Bk w4 w0.heap.size g 64 64 ((spl ((nouW 64).set 0 114) 1 (big (u64Of z) 8)).set 9 n)) := x4
  have HK4 : Hid (Kp (fun b => b = g) w1 w4) := HK3.out.trans k4 (fun _ _ e => e)
  have hl4 : Lv w4 r [.int .i64 z, .slice p n c, .bool f, .bool l] := HL3.out.keep k4 (fun e => HG.out.2.1 e.symm)
  have HL4 : Hid (Lv w4 r [.int .i64 z, .slice p n c, .bool f, .bool l]) := hl4
  have q2 := hl4.cell (j := 2) rfl
  have q3 := hl4.cell (j := 3) rfl
  have f10 := HB4.out.fz 10
  have c10 := HB4.out.cell (j := 10) (by omega)
  have f11 := HB4.out.fz 11
  have c11 := HB4.out.cell (j := 11) (by omega)
  rw [← hw4]
  clear x4 k4 hl4 hw4 f9 c9 HB3 HL3 HK3
  have HFl : Hid (∀ (b : Bool) (u : World), Calls Tryz.prog 208 #[.bool b] u fun e w' => e = .returned (.int .u8 ((b.toNat : Nat) : Int)) ∧ w' = u) := flag_ok
  obtain ⟨w5, hw5⟩ : ∃ y, y = ((w4.setCell ⟨g, 10, none⟩ (.int .u8 ((f.toNat : Nat) : Int))).setCell ⟨g, 11, none⟩ (.int .u8 ((l.toNat : Nat) : Int))).drew := ⟨_, rfl⟩
  have hb01 : ∀ b : Bool, b.toNat < 256 := fun b => by cases b <;> decide
  have x5 := (HB4.out.set (j := 10) (y := f.toNat) (by omega) (hb01 f)).set (j := 11) (y := l.toNat) (by omega) (hb01 l)
  have k5 : Kp (fun b => b = g) w4 w5 := by rw [hw5]; exact (kp_set.trans kp_set (fun _ _ e => e)).drew
  have HB5 : Hid (Bk w5 w0.heap.size g 64 64 ((((spl ((nouW 64).set 0 114) 1 (big (u64Of z) 8)).set 9 n).set 10 f.toNat).set 11 l.toNat)) := by
    show Bk _ _ _ _ _ _
    rw [hw5]
    exact x5.keep0 (Kp.refl (fun _ => False) _).drew
  have HK5 : Hid (Kp (fun b => b = g) w1 w5) := HK4.out.trans k5 (fun _ _ e => e)
  have HL5 : Hid (Lv w5 r [.int .i64 z, .slice p n c, .bool f, .bool l]) := HL4.out.keep k5 (fun e => HG.out.2.1 e.symm)
  have HW5 : Hid (w5 = ((w4.setCell ⟨g, 10, none⟩ (.int .u8 ((f.toNat : Nat) : Int))).setCell ⟨g, 11, none⟩ (.int .u8 ((l.toNat : Nat) : Int))).drew) := hw5
  have HG5 : Hid (Kp (fun _ => False) w w5) := (HG.out.2.2.mono (fun _ _ e => e.elim)).trans (S := fun _ => False) HK5.out (fun b hb e => by have := HG.out.1; omega)
  have HSl : Hid (∀ w : World, (Instr.slice 75 (.slice (some ⟨g, 0, none⟩) 64 64) (some (.int .i64 12)) none none).run Tryz.prog w = .ok (.slice (some ⟨g, 12, none⟩) 52 52) w) := sl2 g
  clear x5 k5 hw5 sl2
  go_region_with (go_at_call 208; refine (HFl.out _ _).mono ?_; rintro e9 w9 ⟨rfl, rfl⟩)
  all_goals
    rw [← HW5.out]
    clear q1 q2 q3 f10 c10 f11 c11
    have hsl := HSl.out
    have q1 := HL5.out.cell (j := 1) rfl
    go_wp2
    go_still_tail 4, mixedW
    refine wpList_copy_bk rfl _ _ rfl w0.heap.size g 64 64 _ (HB5.out.keep0 (Kp.refl _ _).drew) 12 52 52 p n c ys rfl rfl (HR.out.keep0 HG5.out.drew) HN.out.1 (by have := HN.out; omega) (by have := HN.out; omega) ?_
    intro w6 k6 x6
    have HB6 : Hid (Bk w6 w0.heap.size g 64 64 (pcP (u64Of z) ys f l)) := by
      show Bk _ _ _ _ _ _
      unfold pcP
      rw [HN.out.2.2]
      exact x6
    have HK6 : Hid (Kp (fun b => b = g) w5 w6) := ((Kp.refl (fun b => b = g) w5).drew).trans k6 (fun _ _ e => e)
    have HG6 : Hid (Kp (fun _ => False) w w6) := HG5.out.trans (S := fun _ => False) HK6.out (fun b hb e => by have := HG.out.1; omega)
    have HS : Hid (Calls _ _ _ w6 _) := seal_ok HB6.out (fun j hj => HG6.out.cellv (HT.out j hj) id) 64 (by omega)
    clear x6 k6 hsl q1
    go_wp2_with fail
    refine HS.out.mono ?_
    rintro e9 w7 ⟨rfl, k9, x9⟩
    have HF : Hid (Kp (fun _ => False) w w7 ∧ Bk w7 w.heap.size g 64 64 (pcB (u64Of z) ys f l)) := ⟨HG6.out.trans (S := fun _ => False) k9 (fun b hb e => by have := HG.out.1; omega), ⟨x9.len, x9.byte, ownsRow_base x9.ow HK0.out.1.size⟩⟩
    have HG1 : Hid (w.heap.size ≤ g) := HG.out.1
    clear k9 x9 HS
    go_wp2
    go_ret
    exact ⟨g, HG1.out, rfl, HF.out⟩
end Go.Proofs.YtippipeebkkghaaGreatDoor
