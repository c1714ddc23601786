/- Texts of this proof, joined: Al, Am, Aa. -/
import Derived.Test.YtmooddbhcccicaaGreatDoorMgAD
import Derived.Laws.CopyOwn
import Derived.StillTailTactics
import Derived.Lib.MinMax
import Derived.Test.YtmooddbhcccicaaGreatDoorMgAA
import Derived.LaidEql
import Derived.Stop.Asserts
/- A piece's sector. -/
namespace Go.Proofs.YtmooddbhcccicaaGreatDoor
set_option linter.unusedVariables false
set_option linter.unusedSimpArgs false
open Go.RowKit Go.Deep

theorem mixedW : Tryz.prog.follows .mixedOrders = true := by kernel_rfl
theorem wpList_copy_bk {w : World} {ops : Array Oper} {rest : List Oper} {o : Oper} {a : Act} {Q : Exit → Act → World → Prop} (hgd : o.guard = none) (dd s : Operand)
    (ho : o.op = .call { callee := .builtin .copy, args := #[dd, s], argTypes := #[34, 34] }) (base g cap N : Nat) (xs : List Nat) (x : Bk w base g cap N xs) (off dLen dc : Nat) (p : Option Addr) (n c : Nat) (ys : List Nat)
    (hd : a.eval dd = .slice (some ⟨g, off, none⟩) dLen dc) (hs : a.eval s = .slice p n c) (hr : Rb w p n ys) (h0 : 0 < n) (hn : n ≤ dLen) (hfit : off + n ≤ N)
    (h : ∀ w', Kp (fun b => b = g) w w' → Bk w' base g cap N (spl xs off ys) → wpList Tryz.prog ops Q rest (a.put o.dst (goInt n)) w') : wpList Tryz.prog ops Q (o :: rest) a w := by
  obtain ⟨br, ob, rfl, hcl⟩ := hr.pt h0
  have hl : (vl ys).length = n := by rw [vl_length, hr.len]
  obtain ⟨h1, h2⟩ := x.ow
  rcases h2 with ⟨h0', _⟩ | ⟨g', cap', cur, hv, hbg, hh, hnn, hcap, hsz, htake⟩
  · cases h0'
  · cases hv
    have hsz' : N ≤ cur.size := by omega
    refine wpList_copy_own (P := Tryz.prog) hgd dd s 34 34 ho 5 Tryz.underlying34 (by kernel_rfl) g off dLen dc ⟨br, ob, none⟩ n c hd hs cur 5 hh (vl ys) (by rw [hl]; exact (Nat.min_eq_left hn).symm) (fun j v hj => by
      have hj' : j < n := by have := (List.getElem?_eq_some_iff.1 hj).1; omega
      rw [vl_get (by rw [hr.len]; exact hj')] at hj
      rw [Addr.add_mid, ← Option.some.inj hj]
      exact hcl j hj') (by rw [hl]; omega) (vl_one ys) ?_
    rw [hl]
    have hys : ys.length = n := hr.len
    refine h _ ⟨rfl, rfl, rfl, by simp [World.setRow], fun k _ hne => setRow_other w g k _ hne⟩ ⟨by rw [spl_len (by rw [hys, x.len]; exact hfit)]; exact x.len, spl_byte x.byte hr.byte, ?_, Or.inr ⟨g, cap, _, rfl, hbg, setRow_heap w g cur _ _ _ hh, hnn, hcap, ?_, ?_⟩⟩
    · rw [vl_length, spl_len (by rw [hys, x.len]; exact hfit), x.len]; omega
    · simp [hl]; omega
    · dsimp only
      have hL : cur.toList = vl xs ++ cur.toList.drop (N * 1) := by rw [← htake, List.take_append_drop]
      have hxl : (vl xs).length = N := by rw [vl_length]; exact x.len
      have e1 : cur.toList.take off = (vl xs).take off := by rw [hL, List.take_append_of_le_length (by omega)]
      have e2 : cur.toList.drop (off + n) = (vl xs).drop (off + n) ++ cur.toList.drop (N * 1) := by
        conv => lhs; rw [hL]
        rw [List.drop_append_of_le_length (by omega)]
      have e3 : vl (spl xs off ys) = (vl xs).take off ++ (vl ys ++ (vl xs).drop (off + n)) := by
        unfold spl
        rw [vl_append, vl_append, List.append_assoc, hys]
        unfold vl
        rw [List.map_take, List.map_drop]
      have e4 : (vl (spl xs off ys)).length = N * 1 := by rw [vl_length, spl_len (by rw [hys, x.len]; exact hfit), x.len]; omega
      rw [e1, e2, ← List.append_assoc (vl ys), ← List.append_assoc, ← e3, ← e4]
      exact List.take_left
/-- a piece's parts, without the sum and the last byte -/
def pcP (u : Nat) (ys : List Nat) (f l : Bool) : List Nat := spl ((((spl ((nouW 64).set 0 114) 1 (big u 8)).set 9 ys.length).set 10 f.toNat).set 11 l.toNat) 12 ys
def pcB (u : Nat) (ys : List Nat) (f l : Bool) : List Nat := sealB (pcP u ys f l)
/-- an int in 64 bits -/
def u64Of (z : Int) : Nat := (z % 18446744073709551616).toNat
theorem u64Of_wrap (z : Int) : IntKind.u64.wrap z = ((u64Of z : Nat) : Int) := by
  unfold u64Of
  rw [Int.toNat_of_nonneg (Int.emod_nonneg _ (by decide))]
  simp [IntKind.wrap, IntKind.bits, IntKind.signed]
theorem u64Of_lt (z : Int) : u64Of z < 18446744073709551616 := by
  unfold u64Of
  have := Int.emod_lt_of_pos z (b := 18446744073709551616) (by decide)
  have := Int.emod_nonneg z (b := 18446744073709551616) (by decide)
  omega
abbrev pcV (z : Int) (v : Value) (f l : Bool) : Value := .agg #[.int .i64 z, v, .bool f, .bool l]

set_option maxRecDepth 100000 in
set_option maxHeartbeats 1600000 in
theorem psector_ok (z : Int) (p : Option Addr) (n c : Nat) (ys : List Nat) (f l : Bool) (w : World) (h : Rb w p n ys) (h0 : 0 < n) (hn : (n : Int) ≤ 40) (ht : Turns w) :
    Calls Tryz.prog 168 #[pcV z (.slice p n c) f l] w fun e w' => ∃ g, w.heap.size ≤ g ∧ e = .returned (.slice (some ⟨g, 0, none⟩) 64 64) ∧ Kp (fun _ => False) w w' ∧ Bk w' w.heap.size g 64 64 (pcB (u64Of z) ys f l) := by
  have HN : Hid (0 < n ∧ n ≤ 40 ∧ ys.length = n) := ⟨h0, by omega, h.len⟩
  have hz := u64Of_wrap z
  have HR : Hid (Rb w p n ys) := h
  have HT : Hid (Turns w) := ht
  obtain ⟨r, hr⟩ : ∃ r, r = w.heap.size := ⟨_, rfl⟩
  obtain ⟨w0, hw0⟩ : ∃ y, y = w.alloc (.cells #[.int .i64 z, .slice p n c, .bool f, .bool l] 232) := ⟨_, rfl⟩
  have HL0 : Hid (Lv w0 r [.int .i64 z, .slice p n c, .bool f, .bool l]) := by rw [hw0, hr]; exact Lv.new w _ _
  have k0 : Kp (fun _ => False) w w0 := by rw [hw0]; exact (Kp.refl _ _).alloc _
  have z0 : w0.heap.size = w.heap.size + 1 := by rw [hw0]; simp
  have HK0 : Hid (Kp (fun _ => False) w w0 ∧ w0.heap.size = w.heap.size + 1 ∧ r = w.heap.size) := ⟨k0, z0, hr⟩
  have hwn : IntKind.u8.wrap (n : Int) = (n : Int) := by simp [IntKind.wrap, IntKind.bits, IntKind.signed]; omega
  have sl1 : ∀ g (w : World), (Instr.slice 34 (.slice (some ⟨g, 0, none⟩) 64 64) (some (.int .i64 1)) (some (.int .i64 9)) none).run Tryz.prog w = .ok (.slice (some ⟨g, 1, none⟩) 8 63) w := fun g w => by
    have := sliceLH g 0 64 64 1 9 (by omega) (by omega) (by omega) w
    rw [Nat.zero_add] at this
    exact this
  have sl2 : ∀ g (w : World), (Instr.slice 34 (.slice (some ⟨g, 0, none⟩) 64 64) (some (.int .i64 12)) none none).run Tryz.prog w = .ok (.slice (some ⟨g, 12, none⟩) 52 52) w := fun g w => by
    have := sliceL g 0 64 64 12 (by omega) (by omega) w
    rw [Nat.zero_add] at this
    exact this
  clear h h0 hn ht k0 z0
  go_enter Tryz.func168, Tryz.ntmps168
  go_upto_region 1 with fail
  rw [← hw0, ← hr]
  clear hw0 hr
  go_wp2_with fail
  refine (blankS_ok w0).mono ?_
  rintro e9 w1 ⟨g, hg, rfl, k1, x1⟩
  have HG : Hid (w.heap.size ≤ g ∧ g ≠ r ∧ Kp (fun _ => False) w w1) := ⟨by have := HK0.out; omega, by have := HK0.out; omega, HK0.out.1.trans k1 (fun _ _ e => e)⟩
  have HL1 : Hid (Lv w1 r [.int .i64 z, .slice p n c, .bool f, .bool l]) := HL0.out.keep k1 id
  have f0 := x1.fz 0
  have c0 := x1.cell (j := 0) (by omega)
  obtain ⟨w2, hw2⟩ : ∃ y, y = w1.setCell ⟨g, 0, none⟩ (.int .u8 114) := ⟨_, rfl⟩
  have x2 := x1.set (j := 0) (y := 114) (by omega) (by omega)
  have k2 : Kp (fun b => b = g) w1 w2 := by rw [hw2]; exact kp_set
  rw [show ((114 : Nat) : Int) = 114 from rfl, ← hw2] at x2
  have HB2 : Hid (Bk w2 w0.heap.size g 64 64 ((nouW 64).set 0 114)) := x2
  have HK2 : Hid (Kp (fun b => b = g) w1 w2) := k2
  have HL2 : Hid (Lv w2 r [.int .i64 z, .slice p n c, .bool f, .bool l]) := HL1.out.keep k2 (fun e => HG.out.2.1 e.symm)
  have HP2 : Hid (∀ u, Kp (fun _ => False) w2 u → Calls Tryz.prog 206 #[.slice (some ⟨g, 1, none⟩) 8 63, .int .u64 ((u64Of z : Nat) : Int)] u fun e w' => e = .returned (.tuple #[]) ∧ Kp (fun b => b = g) u w' ∧ Bk w' w0.heap.size g 64 64 (spl ((nouW 64).set 0 114) 1 (big (u64Of z) 8))) := fun u k => putNumber_ok (HB2.out.keep0 k) 1 8 63 (u64Of z) (by omega) (by omega) (by omega) (u64Of_lt z)
  have q0 := HL2.out.cell (j := 0) rfl
  have hs1 := sl1 g
  clear x1 x2 k1 k2 hg HL1 sl1
  go_upto_region 3 with fail
  rw [← hw2]
  clear hw2 f0 c0
  have kd : Kp (fun _ => False) w2 w2 := Kp.refl _ _
  go_region_with (go_at_call 206; refine (HP2.out _ kd.drew).mono ?_; rintro e9 w3 ⟨rfl, k3, x3⟩)
  have HK3 : Hid (Kp (fun b => b = g) w1 w3) := HK2.out.trans ((kd.drew.mono (fun _ _ e => e.elim)).trans k3 (fun _ _ e => e)) (fun _ _ e => e)
  have HB3 : Hid (Bk w3 w0.heap.size g 64 64 (spl ((nouW 64).set 0 114) 1 (big (u64Of z) 8))) := x3
  have hl3 : Lv w3 r [.int .i64 z, .slice p n c, .bool f, .bool l] := HL2.out.keep ((kd.drew.mono (fun _ _ e => e.elim)).trans k3 (fun _ _ e => e)) (fun e => HG.out.2.1 e.symm)
  have HL3 : Hid (Lv w3 r [.int .i64 z, .slice p n c, .bool f, .bool l]) := hl3
  have q1 := hl3.cell (j := 1) rfl
  have f9 := HB3.out.fz 9
  have c9 := HB3.out.cell (j := 9) (by omega)
  clear k3 x3 hl3 kd HP2 HB2 HL2 q0 hs1 HK2
  go_upto_region 5 with fail
  obtain ⟨w4, hw4⟩ : ∃ y, y = w3.setCell ⟨g, 9, none⟩ (.int .u8 (n : Int)) := ⟨_, rfl⟩
  have x4 := HB3.out.set (j := 9) (y := n) (by omega) (by have := HN.out; omega)
  have k4 : Kp (fun b => b = g) w3 w4 := by rw [hw4]; exact kp_set
  rw [← hw4] at x4
  have HB4 : Hid (Bk w4 w0.heap.size g 64 64 ((spl ((nouW 64).set 0 114) 1 (big (u64Of z) 8)).set 9 n)) := x4
  have HK4 : Hid (Kp (fun b => b = g) w1 w4) := HK3.out.trans k4 (fun _ _ e => e)
  have hl4 : Lv w4 r [.int .i64 z, .slice p n c, .bool f, .bool l] := HL3.out.keep k4 (fun e => HG.out.2.1 e.symm)
  have HL4 : Hid (Lv w4 r [.int .i64 z, .slice p n c, .bool f, .bool l]) := hl4
  have q2 := hl4.cell (j := 2) rfl
  have q3 := hl4.cell (j := 3) rfl
  have f10 := HB4.out.fz 10
  have c10 := HB4.out.cell (j := 10) (by omega)
  have f11 := HB4.out.fz 11
  have c11 := HB4.out.cell (j := 11) (by omega)
  rw [← hw4]
  clear x4 k4 hl4 hw4 f9 c9 HB3 HL3 HK3
  have HFl : Hid (∀ (b : Bool) (u : World), Calls Tryz.prog 207 #[.bool b] u fun e w' => e = .returned (.int .u8 ((b.toNat : Nat) : Int)) ∧ w' = u) := flag_ok
  obtain ⟨w5, hw5⟩ : ∃ y, y = ((w4.setCell ⟨g, 10, none⟩ (.int .u8 ((f.toNat : Nat) : Int))).setCell ⟨g, 11, none⟩ (.int .u8 ((l.toNat : Nat) : Int))).drew := ⟨_, rfl⟩
  have hb01 : ∀ b : Bool, b.toNat < 256 := fun b => by cases b <;> decide
  have x5 := (HB4.out.set (j := 10) (y := f.toNat) (by omega) (hb01 f)).set (j := 11) (y := l.toNat) (by omega) (hb01 l)
  have k5 : Kp (fun b => b = g) w4 w5 := by rw [hw5]; exact (kp_set.trans kp_set (fun _ _ e => e)).drew
  have HB5 : Hid (Bk w5 w0.heap.size g 64 64 ((((spl ((nouW 64).set 0 114) 1 (big (u64Of z) 8)).set 9 n).set 10 f.toNat).set 11 l.toNat)) := by
    show Bk _ _ _ _ _ _
    rw [hw5]
    exact x5.keep0 (Kp.refl (fun _ => False) _).drew
  have HK5 : Hid (Kp (fun b => b = g) w1 w5) := HK4.out.trans k5 (fun _ _ e => e)
  have HL5 : Hid (Lv w5 r [.int .i64 z, .slice p n c, .bool f, .bool l]) := HL4.out.keep k5 (fun e => HG.out.2.1 e.symm)
  have HW5 : Hid (w5 = ((w4.setCell ⟨g, 10, none⟩ (.int .u8 ((f.toNat : Nat) : Int))).setCell ⟨g, 11, none⟩ (.int .u8 ((l.toNat : Nat) : Int))).drew) := hw5
  have HG5 : Hid (Kp (fun _ => False) w w5) := (HG.out.2.2.mono (fun _ _ e => e.elim)).trans (S := fun _ => False) HK5.out (fun b hb e => by have := HG.out.1; omega)
  have HSl : Hid (∀ w : World, (Instr.slice 34 (.slice (some ⟨g, 0, none⟩) 64 64) (some (.int .i64 12)) none none).run Tryz.prog w = .ok (.slice (some ⟨g, 12, none⟩) 52 52) w) := sl2 g
  clear x5 k5 hw5 sl2
  go_region_with (go_at_call 207; refine (HFl.out _ _).mono ?_; rintro e9 w9 ⟨rfl, rfl⟩)
  all_goals
    rw [← HW5.out]
    clear q1 q2 q3 f10 c10 f11 c11
    have hsl := HSl.out
    have q1 := HL5.out.cell (j := 1) rfl
    go_wp2
    go_still_tail 4, mixedW
    refine wpList_copy_bk rfl _ _ rfl w0.heap.size g 64 64 _ (HB5.out.keep0 (Kp.refl _ _).drew) 12 52 52 p n c ys rfl rfl (HR.out.keep0 HG5.out.drew) HN.out.1 (by have := HN.out; omega) (by have := HN.out; omega) ?_
    intro w6 k6 x6
    have HB6 : Hid (Bk w6 w0.heap.size g 64 64 (pcP (u64Of z) ys f l)) := by
      show Bk _ _ _ _ _ _
      unfold pcP
      rw [HN.out.2.2]
      exact x6
    have HK6 : Hid (Kp (fun b => b = g) w5 w6) := ((Kp.refl (fun b => b = g) w5).drew).trans k6 (fun _ _ e => e)
    have HG6 : Hid (Kp (fun _ => False) w w6) := HG5.out.trans (S := fun _ => False) HK6.out (fun b hb e => by have := HG.out.1; omega)
    have HS : Hid (Calls _ _ _ w6 _) := seal_ok HB6.out (fun j hj => HG6.out.cellv (HT.out j hj) id) 64 (by omega)
    clear x6 k6 hsl q1
    go_wp2_with fail
    refine HS.out.mono ?_
    rintro e9 w7 ⟨rfl, k9, x9⟩
    have HF : Hid (Kp (fun _ => False) w w7 ∧ Bk w7 w.heap.size g 64 64 (pcB (u64Of z) ys f l)) := ⟨HG6.out.trans (S := fun _ => False) k9 (fun b hb e => by have := HG.out.1; omega), ⟨x9.len, x9.byte, ownsRow_base x9.ow HK0.out.1.size⟩⟩
    have HG1 : Hid (w.heap.size ≤ g) := HG.out.1
    clear k9 x9 HS
    go_wp2
    go_ret
    exact ⟨g, HG1.out, rfl, HF.out⟩
end Go.Proofs.YtmooddbhcccicaaGreatDoor

/- What a record's sector says: pieceOf; whether it is right. -/
namespace Go.Proofs.YtmooddbhcccicaaGreatDoor
set_option linter.unusedVariables false
set_option linter.unusedSimpArgs false
open Go.RowKit Go.Deep

/-- how many bytes a record's sector says to have -/
def cntP (xs : List Nat) : Nat := min (xs.getD 9 0) 40
/-- its bytes -/
def bytP (xs : List Nat) : List Nat := (xs.drop 12).take (cntP xs)
def fstP (xs : List Nat) : Bool := decide (xs.getD 10 0 = 1)
def lstP (xs : List Nat) : Bool := decide (xs.getD 11 0 = 1)
theorem szPiece : (Tryz.prog.info? 232).map (·.size) = some 4 := by kernel_rfl
theorem dsPiece : ∃ d, Tryz.prog.underlying 232 = some d ∧ d.isRow = true := ⟨_, Tryz.underlying232, rfl⟩

theorem min_40 (y : Nat) : min (y : Int) 40 = ((min y 40 : Nat) : Int) := by omega
theorem wrap_b9 {y : Nat} (h : y < 256) : IntKind.i64.wrap (y : Int) = (y : Int) := by rw [IntKind.wrap_i64]; omega
theorem wrap_n12i {n : Nat} (h : n ≤ 40) : IntKind.i64.wrap (12 + (n : Int)) = ((12 + n : Nat) : Int) := by rw [IntKind.wrap_i64]; omega
theorem wrap_n12 {n : Nat} (h : n ≤ 40) : wrap64 (12 + (n : Int)) = ((12 + n : Nat) : Int) := by unfold wrap64; omega
set_option maxRecDepth 100000 in
set_option maxHeartbeats 1600000 in
theorem pieceOf_ok (g q c : Nat) (xs : List Nat) (w : World) (hc : 64 ≤ c) (h : Rb w (some ⟨g, q, none⟩) 64 xs) :
    Calls Tryz.prog 231 #[.slice (some ⟨g, q, none⟩) 64 c] w fun e w' => e = .returned (pcV (numAt xs 1) (.slice (some ⟨g, q + 12, none⟩) (cntP xs) (c - 12)) (fstP xs) (lstP xs)) ∧ Kp (fun _ => False) w w' := by
  obtain ⟨z, hz⟩ : ∃ z, z = numAt xs 1 := ⟨_, rfl⟩
  obtain ⟨n, hn⟩ : ∃ n, n = cntP xs := ⟨_, rfl⟩
  obtain ⟨m, hm⟩ : ∃ m, m = w.heap.size := ⟨_, rfl⟩
  obtain ⟨w0, hw0⟩ : ∃ y, y = w.alloc (.cells #[.int .i64 0, .slice none 0 0, .bool false, .bool false] 232) := ⟨_, rfl⟩
  have k0 : Kp (fun _ => False) w w0 := by rw [hw0]; exact (Kp.refl _ _).alloc _
  have HM0 : Hid (Lv w0 m [.int .i64 0, .slice none 0 0, .bool false, .bool false]) := by rw [hw0, hm]; exact Lv.new w _ _
  have r0 : Rb w0 (some ⟨g, q, none⟩) 64 xs := h.keep0 k0
  have hcell : ∀ j, j < 64 → w0.cell? ⟨g, q + j, none⟩ = some (.int .u8 ((xs.getD j 0 : Nat) : Int)) := by
    obtain ⟨b, o, e, hcl⟩ := r0.pt (by omega)
    cases e
    exact hcl
  have hlt : ∀ j, xs.getD j 0 < 256 := r0.byteAt
  obtain ⟨y9, hy9⟩ : ∃ y, y = xs.getD 9 0 := ⟨_, rfl⟩
  obtain ⟨y10, hy10⟩ : ∃ y, y = xs.getD 10 0 := ⟨_, rfl⟩
  obtain ⟨y11, hy11⟩ : ∃ y, y = xs.getD 11 0 := ⟨_, rfl⟩
  have c9 := hcell 9 (by omega)
  have c10 := hcell 10 (by omega)
  have c11 := hcell 11 (by omega)
  rw [← hy9] at c9
  rw [← hy10] at c10
  rw [← hy11] at c11
  have hmin : min (y9 : Int) 40 = (n : Int) := by rw [hn]; unfold cntP; rw [← hy9]; exact min_40 y9
  have hy9l : y9 < 256 := by rw [hy9]; exact hlt 9
  have hn40 : n ≤ 40 := by rw [hn]; unfold cntP; exact Nat.min_le_right _ _
  obtain ⟨N, hN⟩ : ∃ N, N = 12 + n := ⟨_, rfl⟩
  have s1 : ∀ w, (Instr.slice 34 (.slice (some ⟨g, q, none⟩) 64 c) (some (.int .i64 1)) (some (.int .i64 9)) none).run Tryz.prog w = .ok (.slice (some ⟨g, q + 1, none⟩) 8 (c - 1)) w := fun w => sliceLH g q 64 c 1 9 (by omega) (by omega) (by omega) w
  have s2 : ∀ w, (Instr.slice 34 (.slice (some ⟨g, q, none⟩) 64 c) (some (.int .i64 12)) (some (.int .i64 (N : Int))) none).run Tryz.prog w = .ok (.slice (some ⟨g, q + 12, none⟩) n (c - 12)) w := fun w => by
    have := sliceLH g q 64 c 12 N (by omega) (by omega) (by omega) w
    rw [show N - 12 = n by omega] at this
    exact this
  have HN : Hid (∀ u, Kp (fun _ => False) w0 u → Calls Tryz.prog 220 #[.slice (some ⟨g, q + 1, none⟩) 8 (c - 1)] u fun e w' => e = .returned (.int .i64 z) ∧ w' = u) := fun u k => by
    rw [hz]
    exact numberOf_ok ((r0.keep0 k).mid (l := 1) (m := 8) (by omega)) (c - 1) (by omega)
  obtain ⟨b10, hb10⟩ : ∃ b, b = fstP xs := ⟨_, rfl⟩
  obtain ⟨b11, hb11⟩ : ∃ b, b = lstP xs := ⟨_, rfl⟩
  have e10 : ((y10 : Int) == 1) = b10 := by
    rw [hb10]; unfold fstP; rw [← hy10]
    by_cases e : y10 = 1
    · subst e; rfl
    · rw [decide_eq_false e]; rw [beq_eq_false_iff_ne]; omega
  have e11 : ((y11 : Int) == 1) = b11 := by
    rw [hb11]; unfold lstP; rw [← hy11]
    by_cases e : y11 = 1
    · subst e; rfl
    · rw [decide_eq_false e]; rw [beq_eq_false_iff_ne]; omega
  have HK0 : Hid (Kp (fun _ => False) w w0 ∧ w.heap.size ≤ m) := ⟨k0, by omega⟩
  have hw9 := wrap_b9 hy9l
  have hwn : wrap64 (12 + (n : Int)) = (N : Int) := by rw [hN]; exact wrap_n12 hn40
  have hwn2 : IntKind.i64.wrap (12 + (n : Int)) = (N : Int) := by rw [hN]; exact wrap_n12i hn40
  rw [← hz, ← hn, ← hb10, ← hb11]
  clear hz hn hb10 hb11 hy9 hy10 hy11 hcell hlt r0 h k0 hn40 hy9l hN
  go_enter Tryz.func231, Tryz.ntmps231
  go_upto_region 1 with fail
  rw [← hw0, ← hm]
  clear hw0 hm
  go_upto_region 2 with fail
  refine wp_region_still_tail 16 (by kernel_rfl) (by kernel_rfl) ?_
  obtain ⟨w2, hw2⟩ : ∃ x, x = { w0 with drawn := w0.drawn + 1 } := ⟨_, rfl⟩
  have kd : Kp (fun _ => False) w0 w2 := by rw [hw2]; exact (Kp.refl _ _).drew
  have HN2 : Hid (Calls _ _ _ w2 _) := HN.out w2 kd
  have d10 := kd.cellv c10 id
  have d11 := kd.cellv c11 id
  have hlm : Lv w2 m [.int .i64 0, .slice none 0 0, .bool false, .bool false] := HM0.out.keep kd id
  have HM2 : Hid (Lv w2 m [.int .i64 0, .slice none 0 0, .bool false, .bool false]) := hlm
  have HK2 : Hid (Kp (fun _ => False) w w2) := HK0.out.1.trans kd (fun _ _ e => e)
  rw [← hw2]
  clear hw2 c10 c11 c9 kd hlm HM0 HN
  simp only [List.take_succ_cons, List.take_zero, List.drop_succ_cons, List.drop_zero]
  iterate 2 still_step
  still_call (HN2.out)
  iterate 13 still_step
  refine wpStill_nil ?_
  have c0 := HM2.out.cell (j := 0) rfl
  have c1 := HM2.out.cell (j := 1) rfl
  have c2 := HM2.out.cell (j := 2) rfl
  have c3 := HM2.out.cell (j := 3) rfl
  have f0 := HM2.out.fz (j := 0) (by decide)
  have f1 := HM2.out.fz (j := 1) (by decide)
  have f2 := HM2.out.fz (j := 2) (by decide)
  have f3 := HM2.out.fz (j := 3) (by decide)
  obtain ⟨sv, hsv⟩ : ∃ sv : Value, sv = .slice (some ⟨g, q + 12, none⟩) n (c - 12) := ⟨_, rfl⟩
  obtain ⟨w5, hw5⟩ : ∃ y, y = (((w2.setCell ⟨m, 0, none⟩ (.int .i64 z)).setCell ⟨m, 1, none⟩ sv).setCell ⟨m, 2, none⟩ (.bool b10)).setCell ⟨m, 3, none⟩ (.bool b11) := ⟨_, rfl⟩
  have hl5 : Lv w5 m [.int .i64 z, sv, .bool b10, .bool b11] := by
    rw [hw5]
    have a1 : Lv (w2.setCell ⟨m, 0, none⟩ (.int .i64 z)) m [.int .i64 z, .slice none 0 0, .bool false, .bool false] := HM2.out.set1 0 (.int .i64 z) (by decide)
    have a2 : Lv ((w2.setCell ⟨m, 0, none⟩ (.int .i64 z)).setCell ⟨m, 1, none⟩ sv) m [.int .i64 z, sv, .bool false, .bool false] := a1.set1 1 sv (by simp)
    have a3 : Lv (((w2.setCell ⟨m, 0, none⟩ (.int .i64 z)).setCell ⟨m, 1, none⟩ sv).setCell ⟨m, 2, none⟩ (.bool b10)) m [.int .i64 z, sv, .bool b10, .bool false] := a2.set1 2 (.bool b10) (by simp)
    exact a3.set1 3 (.bool b11) (by simp)
  have k5 : Kp (fun b => b = m) w2 w5 := by rw [hw5]; exact ((kp_set.trans kp_set (fun _ _ e => e)).trans kp_set (fun _ _ e => e)).trans kp_set (fun _ _ e => e)
  have HF : Hid (Kp (fun _ => False) w w5) := HK2.out.trans (S := fun _ => False) k5 (fun b hb e => by have := HK0.out.2; omega)
  have HLd : Hid ((loadVar 232 ⟨m, 0, none⟩).run Tryz.prog w5 = .ok (pcV z sv b10 b11) w5) := hl5.load dsPiece szPiece rfl
  rw [hsv] at hw5 HLd
  clear hl5 k5 hsv
  go_wp2
  rw [← hw5]
  refine bodyPost_ret (res_cell Tryz.results231 _ _ m _ rfl HLd.out) rfl ?_
  exact ⟨rfl, HF.out⟩

/-- whether the bytes xs are the piece's sector, and a record may have it -/
def rightP (z : Int) (ys : List Nat) (f l : Bool) (xs : List Nat) : Bool := decide (1 ≤ ys.length) && ((l || decide (ys.length = 40)) && decide (xs = pcB (u64Of z) ys f l))

set_option maxRecDepth 100000 in
set_option maxHeartbeats 1600000 in
theorem pright_ok (z : Int) (p : Option Addr) (n c : Nat) (ys : List Nat) (f l : Bool) (q : Option Addr) (cq : Nat) (xs : List Nat) (w : World) (h : Rb w p n ys) (hn : (n : Int) ≤ 40) (hx : Rb w q 64 xs) (ht : Turns w) :
    Calls Tryz.prog 232 #[pcV z (.slice p n c) f l, .slice q 64 cq] w fun e w' => e = .returned (.bool (rightP z ys f l xs)) ∧ Kp (fun _ => False) w w' := by
  obtain ⟨r, hr⟩ : ∃ r, r = w.heap.size := ⟨_, rfl⟩
  obtain ⟨w0, hw0⟩ : ∃ y, y = w.alloc (.cells #[.int .i64 z, .slice p n c, .bool f, .bool l] 232) := ⟨_, rfl⟩
  have HL0 : Hid (Lv w0 r [.int .i64 z, .slice p n c, .bool f, .bool l]) := by rw [hw0, hr]; exact Lv.new w _ _
  have HK0 : Hid (Kp (fun _ => False) w w0) := by rw [hw0]; exact (Kp.refl _ _).alloc _
  have q0 := HL0.out.cell (j := 0) rfl
  have q1 := HL0.out.cell (j := 1) rfl
  have q2 := HL0.out.cell (j := 2) rfl
  have q3 := HL0.out.cell (j := 3) rfl
  have hlen : ys.length = n := h.len
  have HS : Hid (0 < n → Calls Tryz.prog 168 #[pcV z (.slice p n c) f l] w0 fun e w' => ∃ g, w0.heap.size ≤ g ∧ e = .returned (.slice (some ⟨g, 0, none⟩) 64 64) ∧ Kp (fun _ => False) w0 w' ∧ Bk w' w0.heap.size g 64 64 (pcB (u64Of z) ys f l)) := fun h0 => psector_ok z p n c ys f l w0 (h.keep0 HK0.out) h0 hn (fun j hj => HK0.out.cellv (ht j hj) id)
  have HX : Hid (Rb w q 64 xs) := hx
  obtain ⟨b1, hb1⟩ : ∃ b, b = decide (1 ≤ n) := ⟨_, rfl⟩
  obtain ⟨b2, hb2⟩ : ∃ b, b = decide (n = 40) := ⟨_, rfl⟩
  obtain ⟨P, hP⟩ : ∃ P, P = pcB (u64Of z) ys f l := ⟨_, rfl⟩
  have HE : Hid (rightP z ys f l xs = (b1 && ((l || b2) && decide (xs = P)))) := by show _ = _; rw [hb1, hb2, hP]; unfold rightP; rw [hlen]
  rw [HE.out]
  rw [← hP] at HS
  clear h hx ht hP hlen hn HE
  cases b1 with
  | false =>
    have h1 : ¬ (n : Int) ≥ 1 := by have := of_decide_eq_false hb1.symm; omega
    simp only [Bool.false_and]
    clear hb1 hb2 HS HX
    go_enter Tryz.func232, Tryz.ntmps232
    go_upto_region 1 with fail
    rw [← hw0, ← hr]
    clear hw0 hr
    go_wp2
    go_ret
    exact ⟨rfl, HK0.out⟩
  | true =>
    have h1' : 1 ≤ n := of_decide_eq_true hb1.symm
    have h1 : (n : Int) ≥ 1 := by omega
    have HS2 := HS.out (by omega)
    have HS3 : Hid (Calls _ _ _ w0 _) := HS2
    simp only [Bool.true_and]
    clear hb1 HS HS2 h1'
    have h2 : ((n : Int) == 40) = b2 := by
      rw [hb2]
      by_cases e : n = 40
      · subst e; rfl
      · rw [decide_eq_false e, beq_eq_false_iff_ne]; omega
    clear hb2
    cases l with
    | false =>
      cases b2 with
      | false =>
        simp only [Bool.false_or, Bool.false_and]
        clear HS3 HX
        go_enter Tryz.func232, Tryz.ntmps232
        go_upto_region 1 with fail
        rw [← hw0, ← hr]
        clear hw0 hr
        go_wp2
        go_ret
        exact ⟨rfl, HK0.out⟩
      | true =>
        simp only [Bool.false_or, Bool.true_and]
        go_enter Tryz.func232, Tryz.ntmps232
        go_upto_region 1 with fail
        rw [← hw0, ← hr]
        clear hw0 hr
        go_wp2_with fail
        refine HS3.out.mono ?_
        rintro e9 w2 ⟨g2, _, rfl, k2, x2⟩
        have HK2 : Hid (Kp (fun _ => False) w w2) := HK0.out.trans k2 (fun _ _ e => e)
        have HQ : Hid (Calls _ _ _ w2 _) := equal_any cq 64 w2 (HX.out.keep0 HK2.out) x2.rb
        clear k2 x2 HS3
        go_wp2_with fail
        refine HQ.out.mono ?_
        rintro e9 w9 ⟨rfl, hw9⟩
        have hw8 := hw9.symm
        subst hw8
        clear hw9 HQ
        obtain ⟨b7, h7⟩ : ∃ x, x = decide (xs = P) := ⟨_, rfl⟩
        rw [← h7]
        have H7 : Hid (b7 = decide (xs = P)) := h7
        clear h7
        go_wp2
        go_ret
        exact ⟨by show Ending.returned (.bool b7) = _; rw [H7.out], HK2.out⟩
    | true =>
      simp only [Bool.true_or, Bool.true_and]
      go_enter Tryz.func232, Tryz.ntmps232
      go_upto_region 1 with fail
      rw [← hw0, ← hr]
      clear hw0 hr
      go_wp2_with fail
      refine HS3.out.mono ?_
      rintro e9 w2 ⟨g2, _, rfl, k2, x2⟩
      have HK2 : Hid (Kp (fun _ => False) w w2) := HK0.out.trans k2 (fun _ _ e => e)
      have HQ : Hid (Calls _ _ _ w2 _) := equal_any cq 64 w2 (HX.out.keep0 HK2.out) x2.rb
      clear k2 x2 HS3
      go_wp2_with fail
      refine HQ.out.mono ?_
      rintro e9 w9 ⟨rfl, hw9⟩
      have hw8 := hw9.symm
      subst hw8
      clear hw9 HQ
      obtain ⟨b7, h7⟩ : ∃ x, x = decide (xs = P) := ⟨_, rfl⟩
      rw [← h7]
      have H7 : Hid (b7 = decide (xs = P)) := h7
      clear h7
      go_wp2
      go_ret
      exact ⟨by show Ending.returned (.bool b7) = _; rw [H7.out], HK2.out⟩
end Go.Proofs.YtmooddbhcccicaaGreatDoor

/- Errors with a place: errors.Is, fault, number. -/
namespace Go.Proofs.YtmooddbhcccicaaGreatDoor
open Go.RowKit Go.Deep Go.Extern.Stop Go.Stop Go.Extern

/-- an api.Errno as an error -/
abbrev eno (k : Int) : Value := .iface 44 (.int .i64 k)
/-- a Fault -/
abbrev flt (at_ k : Int) : Value := .iface 166 (.agg #[.int .i64 at_, .int .i64 k])

def typeFn : Array Value → Sem Value := Extern.ReflectliteType.typeOf
def cmpFn : Array Value → Sem Value := Extern.ReflectliteType.method fun t => do Extern.Rtype.noPackHeld "Comparable" t; pure (.bool (← typeInfo t).comparable)
theorem isTypeOf (v : Value) (w : World) : (typeFn #[.iface 44 v]).run Tryz.prog w = .ok (.iface 211 (.agg #[typeHandle Tryz.prog 44])) w := by kernel_rfl
theorem isComparable (w : World) : (cmpFn #[.agg #[typeHandle Tryz.prog 44]]).run Tryz.prog w = .ok (.bool true) w := by kernel_rfl
theorem isMethodComparable (v : Value) (w : World) : (Go.method 424 211 v "Comparable").run Tryz.prog w = .ok (258, v) w := by kernel_rfl
theorem noIsF (v : Value) (xT : TypeId) (w : World) : (Instr.typeAssert (.iface 166 v) xT 213 true).run Tryz.prog w = .ok (.tuple #[.nilIface, .bool false]) w := run_typeAssert_lacksB Tryz.underlying213 (by kernel_rfl) (by kernel_rfl) v xT w
theorem noIsE (v : Value) (xT : TypeId) (w : World) : (Instr.typeAssert (.iface 44 v) xT 213 true).run Tryz.prog w = .ok (.tuple #[.nilIface, .bool false]) w := run_typeAssert_lacksB Tryz.underlying213 (by kernel_rfl) (by kernel_rfl) v xT w
theorem hasUnwrapF (v : Value) (xT : TypeId) (w : World) : (Instr.typeAssert (.iface 166 v) xT 216 true).run Tryz.prog w = .ok (.tuple #[.iface 166 v, .bool true]) w := run_typeAssert_hasB Tryz.underlying216 (by kernel_rfl) v xT w
theorem noUnwrapE (v : Value) (xT : TypeId) (w : World) : (Instr.typeAssert (.iface 44 v) xT 216 true).run Tryz.prog w = .ok (.tuple #[.nilIface, .bool false]) w := run_typeAssert_lacksB Tryz.underlying216 (by kernel_rfl) (by kernel_rfl) v xT w
theorem noUnwrapsE (v : Value) (xT : TypeId) (w : World) : (Instr.typeAssert (.iface 44 v) xT 217 true).run Tryz.prog w = .ok (.tuple #[.nilIface, .bool false]) w := run_typeAssert_lacksB Tryz.underlying217 (by kernel_rfl) (by kernel_rfl) v xT w
theorem methodUnwrap (v : Value) (w : World) : (Go.method 424 166 v "Unwrap").run Tryz.prog w = .ok (254, v) w := by kernel_rfl
set_option maxRecDepth 100000 in
theorem nil_eql (w : World) : (binOp .eql 112 .nilIface .nilIface).run Tryz.prog w = .ok (.bool true) w := by rfl

theorem cmpInfo : (Tryz.prog.info? 44).map (·.comparable) = some true := by kernel_rfl
theorem eno_eql (j k : Int) (w : World) : (binOp .eql 112 (eno j) (eno k)).run Tryz.prog w = .ok (.bool (decide (j = k))) w := by
  obtain ⟨i, hi, hcmp⟩ := Option.map_eq_some_iff.1 cmpInfo
  have h : ∀ d : Nat, (Op.equalIn (d + 2) 112 (eno j) (eno k)).run Tryz.prog w = .ok (decide (j = k)) w := fun d => by
    simp [Op.equalIn, run_underlying (P := Tryz.prog) Tryz.underlying112, run_underlying (P := Tryz.prog) Tryz.underlying44, typeInfo, hi, hcmp]
    by_cases hjk : j = k <;> simp [hjk]
  simp only [binOp]
  simp [Op.equal, Op.maxDepth, h 9998]
theorem unwrap_flt (a j : Int) (w : World) : Calls Tryz.prog 254 #[.agg #[.int .i64 a, .int .i64 j]] w fun e w' => e = .returned (eno j) ∧ Kp (fun _ => False) w w' := by
  have k0 : Kp (fun _ => False) w w := Kp.refl _ _
  go_enter Tryz.func254, Tryz.ntmps254
  go_wp2
  go_ret
  exact ⟨rfl, k0.alloc _⟩

set_option maxRecDepth 100000 in
/-- errors.Is of nil -/
theorem is_nil (k : Int) (w : World) : Calls Tryz.prog 57 #[.nilIface, eno k] w fun e w' => e = .returned (.bool false) ∧ w' = w := by
  have hn := run_eql_iface_nil_left (P := Tryz.prog) w 44 (.int .i64 k) Tryz.underlying112
  have hn2 := nil_eql w
  go_enter Tryz.func57, Tryz.ntmps57
  go_wp2
  go_ret
  exact ⟨rfl, rfl⟩

set_option maxRecDepth 100000 in
/-- errors.Is of a Fault -/
theorem is_flt (a j k : Int) (w : World) : Calls Tryz.prog 57 #[flt a j, eno k] w fun e w' => e = .returned (.bool (decide (j = k))) ∧ Kp (fun _ => False) w w' := by
  have hn := run_eql_iface_nil_left (P := Tryz.prog) w 44 (.int .i64 k) Tryz.underlying112
  have h8 := @run_callFunc_extern Tryz.prog 103 _ typeFn Tryz.func103 (by kernel_rfl) (by kernel_rfl) (by kernel_rfl) (by kernel_rfl)
  have h32 := @run_callFunc_extern Tryz.prog 258 _ cmpFn Tryz.func258 (by kernel_rfl) (by kernel_rfl) (by kernel_rfl) (by kernel_rfl)
  have tT := isTypeOf
  have cT := isComparable
  have mR := isMethodComparable
  have nE := noIsE
  have uE := noUnwrapE
  have vE := noUnwrapsE
  have nW := noIsF
  have uW := hasUnwrapF
  have mU := methodUnwrap
  have hty := run_eql_iface_types (P := Tryz.prog) 166 44 (.agg #[.int .i64 a, .int .i64 j]) (.int .i64 k) Tryz.underlying112 (by decide) w
  have hq := eno_eql
  have HU : Hid (∀ u, Calls Tryz.prog 254 #[.agg #[.int .i64 a, .int .i64 j]] u fun e w' => e = .returned (eno j) ∧ Kp (fun _ => False) u w') := fun u => unwrap_flt a j u
  obtain ⟨B, hB⟩ : ∃ B, B = decide (j = k) := ⟨_, rfl⟩
  have hq2 : ∀ u, (binOp .eql 112 (eno j) (eno k)).run Tryz.prog u = .ok (.bool B) u := fun u => by rw [hB]; exact eno_eql j k u
  have hnl : ∀ u, (binOp .eql 112 (eno j) .nilIface).run Tryz.prog u = .ok (.bool false) u := fun u => by kernel_rfl
  rw [← hB]
  clear hB hq
  go_enter Tryz.func57, Tryz.ntmps57
  go_wp2
  refine wp_loop_rounds 2 ?_
  rw [rounds_succ]
  go_wp2_with (go_at_call 254; refine (HU.out _).mono ?_; rintro e w2 ⟨rfl, k2⟩)
  rw [rounds_succ]
  cases B
  · go_wp2
    go_ret
    exact ⟨rfl, k2⟩
  · go_wp2
    go_ret
    exact ⟨rfl, k2⟩

set_option maxRecDepth 100000 in
theorem fault_nil (a : Int) (w : World) : Calls Tryz.prog 136 #[.int .i64 a, .int .i64 0] w fun e w' => e = .returned .nilIface ∧ w' = w := by
  go_enter Tryz.func136, Tryz.ntmps136
  go_wp2
  go_ret
  exact ⟨rfl, rfl⟩

set_option maxRecDepth 100000 in
theorem fault_flt (a k : Int) (hk : ¬ k = 0) (w : World) : Calls Tryz.prog 136 #[.int .i64 a, .int .i64 k] w fun e w' => e = .returned (flt a k) ∧ w' = w := by
  have hk2 : (k == 0) = false := by rw [beq_eq_false_iff_ne]; exact hk
  clear hk
  go_enter Tryz.func136, Tryz.ntmps136
  go_wp2
  go_ret
  exact ⟨rfl, rfl⟩

abbrev fives : Value := .agg #[.int .i64 1, .int .i64 2, .int .i64 4, .int .i64 60, .int .i64 70]
theorem five0 (w : World) : (Instr.index 200 fives (.int .i64 0)).run Tryz.prog w = .ok (.int .i64 1) w := by kernel_rfl
theorem five1 (w : World) : (Instr.index 200 fives (.int .i64 1)).run Tryz.prog w = .ok (.int .i64 2) w := by kernel_rfl
theorem five2 (w : World) : (Instr.index 200 fives (.int .i64 2)).run Tryz.prog w = .ok (.int .i64 4) w := by kernel_rfl
theorem five3 (w : World) : (Instr.index 200 fives (.int .i64 3)).run Tryz.prog w = .ok (.int .i64 60) w := by kernel_rfl
theorem five4 (w : World) : (Instr.index 200 fives (.int .i64 4)).run Tryz.prog w = .ok (.int .i64 70) w := by kernel_rfl

set_option maxRecDepth 100000 in
theorem number_nil (w : World) : Calls Tryz.prog 94 #[.nilIface] w fun e w' => e = .returned (.int .i64 0) ∧ w' = w := by
  have HN : Hid (∀ k, Calls Tryz.prog 57 #[.nilIface, eno k] w fun e w' => e = .returned (.bool false) ∧ w' = w) := fun k => is_nil k w
  have h0 := five0
  have h1 := five1
  have h2 := five2
  have h3 := five3
  have h4 := five4
  go_enter Tryz.func94, Tryz.ntmps94
  go_wp2
  refine wp_loop_rounds 6 ?_
  rw [rounds_succ]
  go_wp2_with (go_at_call 57; refine (HN.out _).mono ?_; rintro e w2 ⟨rfl, rfl⟩)
  rw [rounds_succ]
  go_wp2_with (go_at_call 57; refine (HN.out _).mono ?_; rintro e w3 ⟨rfl, rfl⟩)
  rw [rounds_succ]
  go_wp2_with (go_at_call 57; refine (HN.out _).mono ?_; rintro e w3 ⟨rfl, rfl⟩)
  rw [rounds_succ]
  go_wp2_with (go_at_call 57; refine (HN.out _).mono ?_; rintro e w3 ⟨rfl, rfl⟩)
  rw [rounds_succ]
  go_wp2_with (go_at_call 57; refine (HN.out _).mono ?_; rintro e w3 ⟨rfl, rfl⟩)
  rw [rounds_succ]
  go_wp2
  go_ret
  exact ⟨rfl, rfl⟩
end Go.Proofs.YtmooddbhcccicaaGreatDoor
