/- Texts of this proof, joined: MgAE, MgAF, MgAG. -/
import Derived.Test.YtmooddbhcccicaaGreatDoorMgAC
import Derived.Test.YtmooddbhcccicaaGreatDoorMgAD
import Derived.Lib.Bytes
import Derived.Laws.CopyOwn
import Derived.StillTailTactics
import Derived.Lib.MinMax
/- Texts of this proof, joined: Ah, Ai. -/
/- Bytes of one's own that are written over; a sector's numbers: putNumber, numberOf, blank, flag, seal. -/
namespace Go.Proofs.YtmooddbhcccicaaGreatDoor
set_option linter.unusedVariables false
set_option linter.unusedSimpArgs false
open Go.RowKit Go.Deep

/-- the part from o on replaced -/
def spl (xs : List Nat) (o : Nat) (ys : List Nat) : List Nat := xs.take o ++ ys ++ xs.drop (o + ys.length)
theorem spl_len {xs : List Nat} {o : Nat} {ys : List Nat} (h : o + ys.length ≤ xs.length) : (spl xs o ys).length = xs.length := by
  unfold spl
  rw [List.length_append, List.length_append, List.length_take, List.length_drop]
  omega
theorem spl_nil (xs : List Nat) (o : Nat) : spl xs o [] = xs := by
  unfold spl
  rw [List.append_nil, List.length_nil, Nat.add_zero, List.take_append_drop]
theorem spl_byte {xs ys : List Nat} {o : Nat} (h1 : ∀ x ∈ xs, x < 256) (h2 : ∀ y ∈ ys, y < 256) : ∀ x ∈ spl xs o ys, x < 256 := fun x hx => by
  unfold spl at hx
  rcases List.mem_append.1 hx with hx | hx
  · rcases List.mem_append.1 hx with hx | hx
    · exact h1 x (List.mem_of_mem_take hx)
    · exact h2 x hx
  · exact h1 x (List.mem_of_mem_drop hx)
theorem spl_get {xs ys : List Nat} {o : Nat} (h : o + ys.length ≤ xs.length) (j : Nat) : (spl xs o ys).getD j 0 = if o ≤ j ∧ j < o + ys.length then ys.getD (j - o) 0 else xs.getD j 0 := by
  unfold spl
  rw [List.getD_eq_getElem?_getD, List.append_assoc]
  by_cases h1 : j < o
  · rw [List.getElem?_append_left (by rw [List.length_take]; omega), List.getElem?_take_of_lt h1, if_neg (by omega), List.getD_eq_getElem?_getD]
  · rw [List.getElem?_append_right (by rw [List.length_take]; omega), List.length_take, Nat.min_eq_left (by omega)]
    by_cases h2 : j < o + ys.length
    · rw [List.getElem?_append_left (by omega), if_pos ⟨by omega, h2⟩, List.getD_eq_getElem?_getD]
    · rw [List.getElem?_append_right (by omega), List.getElem?_drop, if_neg (by omega), List.getD_eq_getElem?_getD, show o + ys.length + (j - o - ys.length) = j by omega]
theorem list_ext0 {xs ys : List Nat} (hl : xs.length = ys.length) (h : ∀ j, j < xs.length → xs.getD j 0 = ys.getD j 0) : xs = ys := by
  apply List.ext_getElem hl
  intro i h1 h2
  have := h i h1
  rw [List.getD_eq_getElem?_getD, List.getD_eq_getElem?_getD, List.getElem?_eq_getElem h1, List.getElem?_eq_getElem h2] at this
  exact this
theorem getD_set0 (l : List Nat) (i j x : Nat) (h : i < l.length) : (l.set i x).getD j 0 = if j = i then x else l.getD j 0 := by
  rw [List.getD_eq_getElem?_getD, List.getD_eq_getElem?_getD]
  by_cases e : j = i
  · subst e; rw [List.getElem?_set_self h, if_pos rfl]; rfl
  · rw [List.getElem?_set_ne (fun e2 => e e2.symm), if_neg e]
theorem getD_take0 (l : List Nat) (i j : Nat) (h : j < i) : (l.take i).getD j 0 = l.getD j 0 := by
  rw [List.getD_eq_getElem?_getD, List.getD_eq_getElem?_getD, List.getElem?_take_of_lt h]
theorem spl_step {xs ys : List Nat} {o i : Nat} (h : o + ys.length ≤ xs.length) (hi : i < ys.length) : (spl xs o (ys.take i)).set (o + i) (ys.getD i 0) = spl xs o (ys.take (i + 1)) := by
  have l1 : (ys.take i).length = i := by rw [List.length_take]; omega
  have l2 : (ys.take (i + 1)).length = i + 1 := by rw [List.length_take]; omega
  have n1 : (spl xs o (ys.take i)).length = xs.length := spl_len (by omega)
  have n2 : (spl xs o (ys.take (i + 1))).length = xs.length := spl_len (by omega)
  refine list_ext0 (by rw [List.length_set]; omega) (fun j hj => ?_)
  rw [getD_set0 _ _ _ _ (by omega), spl_get (by omega), spl_get (by omega), l1, l2]
  by_cases e : j = o + i
  · subst e
    rw [if_pos rfl, if_pos (by omega), getD_take0 _ _ _ (by omega), show o + i - o = i by omega]
  · rw [if_neg e]
    by_cases e2 : o ≤ j ∧ j < o + i
    · rw [if_pos e2, if_pos (by omega), getD_take0 _ _ _ (by omega), getD_take0 _ _ _ (by omega)]
    · rw [if_neg e2, if_neg (by omega)]

/-- a row of N bytes of one's own at block g -/
structure Bk (w : World) (base g cap N : Nat) (xs : List Nat) : Prop where
  len : xs.length = N
  byte : ∀ x ∈ xs, x < 256
  ow : w.ownsRow base 5 1 (.slice (some ⟨g, 0, none⟩) N cap) N (vl xs)
section
variable {w : World} {base g cap N : Nat} {xs : List Nat}
theorem Bk.gb (x : Bk w base g cap N xs) : base ≤ g ∧ g < w.heap.size := ownBlock_lt x.ow (g := g) rfl
theorem Bk.keep {S : Nat → Prop} {w' : World} (x : Bk w base g cap N xs) (k : Kp S w w') (hg : ¬ S g) : Bk w' base g cap N xs :=
  ⟨x.len, x.byte, ownsRow_keep x.ow k (fun g' e => by have e' : some g = some g' := e; injection e' with e'; subst e'; exact hg)⟩
theorem Bk.keep0 {w' : World} (x : Bk w base g cap N xs) (k : Kp (fun _ => False) w w') : Bk w' base g cap N xs := x.keep k id
theorem Bk.fz (x : Bk w base g cap N xs) (j : Nat) : w.frozen? ⟨g, j, none⟩ = false := own_frzI x.ow j
theorem Bk.cell (x : Bk w base g cap N xs) {j : Nat} (hj : j < N) : w.cell? ⟨g, j, none⟩ = some (.int .u8 ((xs.getD j 0 : Nat) : Int)) := by
  have h1 := x.ow.cells (g := g) rfl j _ (vl_get (by rw [x.len]; exact hj))
  rw [Addr.add_mid, Nat.zero_add] at h1
  exact h1
theorem Bk.set (x : Bk w base g cap N xs) {j y : Nat} (hj : j < N) (hy : y < 256) : Bk (w.setCell ⟨g, j, none⟩ (.int .u8 (y : Int))) base g cap N (xs.set j y) := by
  refine ⟨by rw [List.length_set]; exact x.len, fun z hz => ?_, ?_⟩
  · rcases List.mem_or_eq_of_mem_set hz with h | h
    · exact x.byte z h
    · omega
  · have h1 := own_setI x.ow j (.int .u8 (y : Int)) (by rw [vl_length, x.len]; exact hj)
    have h2 : vl (xs.set j y) = (vl xs).set j (.int .u8 (y : Int)) := by unfold vl; rw [List.map_set]
    rw [h2]
    exact h1
theorem Bk.rb (x : Bk w base g cap N xs) : Rb w (some ⟨g, 0, none⟩) N xs := ⟨x.len, x.byte, fun j hj => ⟨g, 0, rfl, by rw [Nat.zero_add]; exact x.cell hj⟩⟩
theorem Bk.capLe (x : Bk w base g cap N xs) : N ≤ cap := by
  obtain ⟨_, h2⟩ := x.ow
  rcases h2 with ⟨h0, _⟩ | ⟨g', cap', cur, hv, hg, hh, hnn, hcap, hsz, htake⟩
  · cases h0
  · cases hv; omega
end
theorem kp_set {w : World} {g j : Nat} {v : Value} : Kp (fun b => b = g) w (w.setCell ⟨g, j, none⟩ v) := (Kp.refl (fun b => b = g) w).setCell (fun _ => rfl) _

theorem pow_8 (k : Nat) : 2 ^ (8 * k) = 256 ^ k := by rw [Nat.pow_mul]
set_option maxRecDepth 100000 in
set_option maxHeartbeats 800000 in
theorem putNumber_ok {w : World} {base g cap N : Nat} {xs : List Nat} (x : Bk w base g cap N xs) (o L c u : Nat) (ho : o + L ≤ N) (hL : (L : Int) ≤ 8) (hN : (N : Int) ≤ 1000) (hu : u < 18446744073709551616) :
    Calls Tryz.prog 206 #[.slice (some ⟨g, o, none⟩) L c, .int .u64 (u : Int)] w fun e w' => e = .returned (.tuple #[]) ∧ Kp (fun b => b = g) w w' ∧ Bk w' base g cap N (spl xs o (big u L)) := by
  have HX : Hid (Bk w base g cap N xs) := x
  have HN : Hid (o + L ≤ N ∧ N ≤ 1000 ∧ L ≤ 8 ∧ u < 18446744073709551616) := ⟨ho, by omega, by omega, hu⟩
  have hwl : wrap64 ((L : Int) - 1) = ((L : Int) - 1) := by unfold wrap64; omega
  clear x ho hN hu
  go_enter Tryz.func206, Tryz.ntmps206
  go_wp2
  go_loopg [7] L (fun gk iv wr => ∃ i : Nat, i ≤ L ∧ gk = L - i ∧ iv = .int .i64 i ∧ Hid (Kp (fun b => b = g) w wr) ∧ Hid (Bk wr base g cap N (spl xs o ((big u L).take i))))
  case atStart => exact ⟨0, Nat.zero_le _, rfl, rfl, Kp.refl _ _, by show Bk _ _ _ _ _ _; rw [List.take_zero, spl_nil]; exact HX.out⟩
  case round =>
    obtain ⟨i, hi, rfl, rfl, HK, HB⟩ := hrel
    by_cases hlt : i < L
    · have hlt2 : (i : Int) < (L : Int) := by omega
      have hfz := HB.out.fz (o + i)
      have hcl := HB.out.cell (j := o + i) (by have := HN.out; omega)
      have HV : Hid ((u : Int) / 2 ^ (8 * (L - 1 - i)) % 256 = (((big u L).getD i 0 : Nat) : Int)) := by
        show _ = _
        rw [big_at u L i hlt, ← pow_8]
        norm_cast
      have HS : Hid (Bk (wr.setCell ⟨g, o + i, none⟩ (.int .u8 ((u : Int) / 2 ^ (8 * (L - 1 - i)) % 256))) base g cap N (spl xs o ((big u L).take (i + 1)))) := by
        show Bk _ _ _ _ _ _
        have hb : (big u L).getD i 0 < 256 := by rw [big_at u L i hlt]; omega
        rw [HV.out, ← spl_step (xs := xs) (ys := big u L) (by rw [big_length, HX.out.len]; exact HN.out.1) (by rw [big_length]; exact hlt)]
        exact HB.out.set (by have := HN.out; omega) hb
      clear HV
      go_wp2
      go_roundg (L - (i + 1))
      case rel => exact ⟨i + 1, by omega, rfl, by simp, HK.out.trans kp_set (fun _ _ e => e), HS.out⟩
      case measure => omega
    · have hlt2 : ¬ ((i : Int) < (L : Int)) := by omega
      have HF : Hid (Bk wr base g cap N (spl xs o (big u L))) := by
        have h1 := HB.out
        rw [List.take_of_length_le (by rw [big_length]; omega)] at h1
        exact h1
      go_wp2
      go_end0
      exact ⟨rfl, HK.out, HF.out⟩

/-- the number of bytes, the highest first -/
def hfW (xs : List Nat) : Nat := xs.foldl (fun n x => n * 256 + x) 0
theorem hfW_snoc (xs : List Nat) (x : Nat) : hfW (xs ++ [x]) = hfW xs * 256 + x := by simp [hfW]
theorem hfW_lt : ∀ (n : Nat) (xs : List Nat), xs.length = n → (∀ x ∈ xs, x < 256) → hfW xs < 256 ^ n
  | 0, xs, h, _ => by rw [List.eq_nil_of_length_eq_zero h]; decide
  | n + 1, xs, h, hb => by
    obtain ⟨ys, y, rfl⟩ : ∃ ys y, xs = ys ++ [y] := ⟨xs.dropLast, xs.getLast (by intro e; subst e; simp at h), (List.dropLast_concat_getLast _).symm⟩
    have := hfW_lt n ys (by simpa using h) (fun x hx => hb x (by simp [hx]))
    have hy := hb y (by simp)
    rw [hfW_snoc, Nat.pow_succ]
    omega
theorem big_succW (n w : Nat) : big n (w + 1) = big (n / 256) w ++ [n % 256] := by
  unfold big
  rw [List.range_succ, List.map_append]
  congr 1
  · refine List.map_congr_left (fun j hj => ?_)
    have hj' := List.mem_range.1 hj
    rw [Nat.div_div_eq_div_mul, ← Nat.pow_succ', show w + 1 - 1 - j = w - 1 - j + 1 from by omega]
  · simp
theorem hfW_big : ∀ (w n : Nat), n < 256 ^ w → hfW (big n w) = n
  | 0, n, h => by have : n = 0 := by simpa using h
                  subst this; rfl
  | w + 1, n, h => by
    rw [big_succW, hfW_snoc, hfW_big w (n / 256) (by rw [Nat.pow_succ] at h; omega)]; omega
theorem big_hfW : ∀ (w : Nat) (xs : List Nat), xs.length = w → (∀ x ∈ xs, x < 256) → big (hfW xs) w = xs
  | 0, xs, h, _ => by rw [List.eq_nil_of_length_eq_zero h]; rfl
  | w + 1, xs, h, hb => by
    obtain ⟨ys, y, rfl⟩ : ∃ ys y, xs = ys ++ [y] := ⟨xs.dropLast, xs.getLast (by intro e; subst e; simp at h), (List.dropLast_concat_getLast _).symm⟩
    have hy := hb y (by simp)
    rw [hfW_snoc, big_succW, show (hfW ys * 256 + y) / 256 = hfW ys from by omega, show (hfW ys * 256 + y) % 256 = y from by omega, big_hfW w ys (by simpa using h) (fun x hx => hb x (by simp [hx]))]

/-- a number of 64 bits as an int -/
def i64Of (n : Nat) : Int := if n < 9223372036854775808 then (n : Int) else (n : Int) - 18446744073709551616
theorem i64Of_wrap (n : Nat) (h : n < 18446744073709551616) : wrap64 (n : Int) = i64Of n := by
  unfold i64Of wrap64
  by_cases e : n < 9223372036854775808
  · rw [if_pos e]; omega
  · rw [if_neg e]; omega

theorem u64_or_shiftW (n x : Nat) (hn : n < 256 ^ 7) (hx : x < 256) : bits .or .u64 (IntKind.u64.wrap ((n : Int) * 256)) ((x : Nat) : Int) = ((n * 256 + x : Nat) : Int) := by
  have e : IntKind.u64.wrap ((n : Int) * 256) = ((n * 256 : Nat) : Int) := by
    have : IntKind.u64.wrap ((n : Int) * 256) = ((n : Int) * 256) % 18446744073709551616 := by simp [IntKind.wrap, IntKind.bits, IntKind.signed]
    rw [this]; omega
  rw [e, u64_or_nat _ _ (by omega) (by omega)]
  congr 1
  have := Nat.two_pow_add_eq_or_of_lt (i := 8) (b := x) (by omega) n
  rw [Nat.mul_comm n 256, show (256 : Nat) = 2 ^ 8 from rfl, ← this]

set_option maxRecDepth 100000 in
set_option maxHeartbeats 800000 in
theorem numberOf_ok {w : World} {p : Option Addr} {n : Nat} {xs : List Nat} (h : Rb w p n xs) (c : Nat) (hn : (n : Int) ≤ 8) :
    Calls Tryz.prog 220 #[.slice p n c] w fun e w' => e = .returned (.int .i64 (i64Of (hfW xs))) ∧ w' = w := by
  have HR : Hid (Rb w p n xs) := h
  have HN : Hid (n ≤ 8 ∧ xs.length = n) := ⟨by omega, h.len⟩
  clear h hn
  go_enter Tryz.func220, Tryz.ntmps220
  go_wp2
  go_loopg [3, 8] n (fun gk nv iv wr => ∃ i : Nat, i ≤ n ∧ gk = n - i ∧ iv = .int .i64 i ∧ nv = .int .u64 ((hfW (xs.take i) : Nat) : Int) ∧ wr = w)
  case atStart => exact ⟨0, Nat.zero_le _, rfl, rfl, rfl, rfl⟩
  case round =>
    obtain ⟨i, hi, rfl, rfl, rfl, hwr⟩ := hrel
    subst hwr
    by_cases hlt : i < n
    · have hlt2 : (i : Int) < (n : Int) := by omega
      obtain ⟨b, o, rfl, hc⟩ := HR.out.pt (by omega)
      have hcl := hc i hlt
      obtain ⟨y, hy⟩ : ∃ y, y = xs.getD i 0 := ⟨_, rfl⟩
      have hyb : y < 256 := by rw [hy]; exact HR.out.byteAt i
      rw [← hy] at hcl
      obtain ⟨m, hm⟩ : ∃ m, m = hfW (xs.take i) := ⟨_, rfl⟩
      have hml : m < 256 ^ 7 := by
        rw [hm]
        exact Nat.lt_of_lt_of_le (hfW_lt i _ (by rw [List.length_take]; have := HN.out; omega) (fun x hx => HR.out.byte x (List.mem_of_mem_take hx))) (Nat.pow_le_pow_right (by decide) (by have := HN.out; omega))
      have HNx : Hid (hfW (xs.take (i + 1)) = m * 256 + y) := by
        show _ = _
        have e : xs.take (i + 1) = xs.take i ++ [y] := by
          have hil : i < xs.length := by have := HN.out; omega
          rw [List.take_succ_eq_append_getElem hil, hy, List.getD_eq_getElem?_getD, List.getElem?_eq_getElem hil]; rfl
        rw [e, hfW_snoc, hm]
      rw [← hm]
      have hor := u64_or_shiftW m y hml hyb
      have hwy : IntKind.u64.wrap (y : Int) = (y : Int) := by simp [IntKind.wrap, IntKind.bits, IntKind.signed]; omega
      have hwi : wrap64 ((i : Int) + 1) = ((i + 1 : Nat) : Int) := by have := HN.out; unfold wrap64; omega
      clear hc hy hm hml hyb
      go_wp2
      go_roundg (n - (i + 1))
      case rel => exact ⟨i + 1, by omega, rfl, by rw [hwi], by rw [HNx.out]; simp, rfl⟩
      case measure => omega
    · have hlt2 : ¬ ((i : Int) < (n : Int)) := by omega
      have he : hfW (xs.take i) = hfW xs := by rw [List.take_of_length_le (by have := HN.out; omega)]
      rw [he]
      clear he
      have hw := i64Of_wrap (hfW xs) (Nat.lt_of_lt_of_le (hfW_lt n xs HN.out.2 HR.out.byte) (Nat.le_trans (Nat.pow_le_pow_right (by decide) HN.out.1) (by decide)))
      go_wp2
      go_ret
      exact ⟨rfl, rfl⟩

theorem numberOf_kp {w : World} {p : Option Addr} {n : Nat} {xs : List Nat} (h : Rb w p n xs) (c : Nat) (hn : (n : Int) ≤ 8) :
    Calls Tryz.prog 220 #[.slice p n c] w fun e w' => e = .returned (.int .i64 (i64Of (hfW xs))) ∧ Kp (fun _ => False) w w' :=
  (numberOf_ok h c hn).mono fun e w' ⟨he, hw⟩ => ⟨he, by rw [hw]; exact Kp.refl _ _⟩

/-- so many noughts -/
abbrev nouW (n : Nat) : List Nat := List.replicate n 0
set_option maxRecDepth 100000 in
set_option maxHeartbeats 800000 in
theorem blankS_ok (w : World) : Calls Tryz.prog 203 #[] w fun e w' => ∃ g, w.heap.size ≤ g ∧ e = .returned (.slice (some ⟨g, 0, none⟩) 64 64) ∧ Kp (fun _ => False) w w' ∧ Bk w' w.heap.size g 64 64 (nouW 64) := by
  have hmk : ∀ w : World, (Instr.makeSlice 34 (.int .i64 64) (.int .i64 64)).run Tryz.prog w = .ok (.slice (some ⟨w.heap.size, 0, none⟩) 64 64) (w.alloc (.cells (madeCells #[.int .u8 0] 64) 5)) := run_make_row' (P := Tryz.prog) 34 5 (.int .u8 0) 1 Tryz.underlying34 info5 rfl .i64 .i64 64 (by omega) (by omega)
  have HF : Hid (Kp (fun _ => False) w (w.alloc (.cells (madeCells #[.int .u8 0] 64) 5)) ∧ Bk (w.alloc (.cells (madeCells #[.int .u8 0] 64) 5)) w.heap.size w.heap.size 64 64 (nouW 64)) := by
    refine ⟨(Kp.refl _ _).alloc _, ⟨List.length_replicate, fun x hx => by have := List.eq_of_mem_replicate hx; omega, ?_⟩⟩
    have h1 := ow_of_row (xs := nouW 64) (World.rowIs_made w _ 64 5) (Nat.le_refl _) List.length_replicate (by unfold maxLen; omega) (fun j hj => by
      rw [List.getD_eq_getElem?_getD, List.getElem?_replicate, if_pos hj])
    exact h1
  go_enter Tryz.func203, Tryz.ntmps203
  go_wp2
  go_ret
  exact ⟨_, Nat.le_refl _, rfl, HF.out⟩

set_option maxRecDepth 100000 in
theorem flag_ok (b : Bool) (w : World) : Calls Tryz.prog 207 #[.bool b] w fun e w' => e = .returned (.int .u8 ((b.toNat : Nat) : Int)) ∧ w' = w := by
  cases b <;> (go_enter Tryz.func207, Tryz.ntmps207; go_wp2; go_ret; exact ⟨rfl, rfl⟩)

/-- a sector of parts: the sum of the first 59 bytes, the last byte -/
def sealB (xs : List Nat) : List Nat := xs.take 59 ++ big (Crc.sum (xs.take 59)) 4 ++ [167]
theorem sealB_eq {xs : List Nat} (h : xs.length = 64) : (spl xs 59 (big (Crc.sum (xs.take 59)) 4)).set 63 167 = sealB xs := by
  have l1 : (big (Crc.sum (xs.take 59)) 4).length = 4 := big_length _ _
  unfold spl sealB
  rw [l1, List.append_assoc, List.append_assoc, List.set_append_right _ _ (by rw [List.length_take]; omega), List.length_take, h]
  congr 1
  rw [List.set_append_right _ _ (by rw [l1]; omega), l1]
  congr 1
  have hd : (xs.drop (59 + 4)).length = 1 := by rw [List.length_drop]; omega
  obtain ⟨y, hy⟩ := List.length_eq_one_iff.1 hd
  rw [hy]
  rfl

theorem sliceLH (g o n c l r : Nat) (hl : l ≤ r) (hr : r ≤ c) (hlc : l < c) (w : World) :
    (Instr.slice 34 (.slice (some ⟨g, o, none⟩) n c) (some (.int .i64 (l : Int))) (some (.int .i64 (r : Int))) none).run Tryz.prog w = .ok (.slice (some ⟨g, o + l, none⟩) (r - l) (c - l)) w := by
  obtain ⟨i, hi, hz⟩ := Option.map_eq_some_iff.1 info5
  simp only [Prod.mk.injEq] at hz
  obtain ⟨hz, hs, hb⟩ := hz
  have h1 : (0 : Int) ≤ l ∧ (l : Int) ≤ (r : Int) := by omega
  have h2 : (0 : Int) ≤ r ∧ (r : Int) ≤ (c : Int) := by omega
  have h3 : ¬ c = l := by omega
  simp [Instr.slice, Instr.sliceBounds, Instr.sliceBound, asIntOf, run_underlying Tryz.underlying34, sizeOf, typeInfo, hi, hs, hl, hr, h3, Addr.add]
theorem sliceH (g o n c r : Nat) (hr : r ≤ c) (hc : 0 < c) (w : World) :
    (Instr.slice 34 (.slice (some ⟨g, o, none⟩) n c) none (some (.int .i64 (r : Int))) none).run Tryz.prog w = .ok (.slice (some ⟨g, o, none⟩) r c) w := by
  obtain ⟨i, hi, hz⟩ := Option.map_eq_some_iff.1 info5
  simp only [Prod.mk.injEq] at hz
  obtain ⟨hz, hs, hb⟩ := hz
  have h2 : (0 : Int) ≤ r ∧ (r : Int) ≤ (c : Int) := by omega
  have h3 : ¬ c = 0 := by omega
  simp [Instr.slice, Instr.sliceBounds, Instr.sliceBound, asIntOf, run_underlying Tryz.underlying34, sizeOf, typeInfo, hi, hr, h3, Addr.add]
theorem sliceL (g o n c l : Nat) (hl : l ≤ n) (hlc : l < c) (w : World) :
    (Instr.slice 34 (.slice (some ⟨g, o, none⟩) n c) (some (.int .i64 (l : Int))) none none).run Tryz.prog w = .ok (.slice (some ⟨g, o + l, none⟩) (n - l) (c - l)) w := by
  obtain ⟨i, hi, hz⟩ := Option.map_eq_some_iff.1 info5
  simp only [Prod.mk.injEq] at hz
  obtain ⟨hz, hs, hb⟩ := hz
  have h3 : ¬ c = l := by omega
  simp [Instr.slice, Instr.sliceBounds, Instr.sliceBound, asIntOf, run_underlying Tryz.underlying34, sizeOf, typeInfo, hi, hs, hl, h3, Addr.add]
/-- a part of bytes that lie from o on -/
theorem Rb.mid {w : World} {g o n : Nat} {xs : List Nat} (h : Rb w (some ⟨g, o, none⟩) n xs) {l m : Nat} (hl : l + m ≤ n) : Rb w (some ⟨g, o + l, none⟩) m ((xs.drop l).take m) := by
  refine ⟨by rw [List.length_take, List.length_drop, h.len]; omega, fun x hx => h.byte x (List.mem_of_mem_drop (List.mem_of_mem_take hx)), fun j hj => ?_⟩
  obtain ⟨b, o', e, hb⟩ := h.pt (by omega)
  simp only [Option.some.injEq, Addr.mk.injEq, and_true] at e
  obtain ⟨rfl, rfl⟩ := e
  refine ⟨g, o + l, rfl, ?_⟩
  rw [Nat.add_assoc, hb (l + j) (by omega), List.getD_eq_getElem?_getD, List.getD_eq_getElem?_getD, List.getElem?_take_of_lt hj, List.getElem?_drop]

set_option maxRecDepth 100000 in
set_option maxHeartbeats 1600000 in
theorem seal_ok {w : World} {base g cap : Nat} {xs : List Nat} (x : Bk w base g cap 64 xs) (ht : Turns w) (c : Nat) (hc : 64 ≤ c) :
    Calls Tryz.prog 208 #[.slice (some ⟨g, 0, none⟩) 64 c] w fun e w' => e = .returned (.slice (some ⟨g, 0, none⟩) 64 c) ∧ Kp (fun b => b = g) w w' ∧ Bk w' base g cap 64 (sealB xs) := by
  have HX : Hid (Bk w base g cap 64 xs) := x
  obtain ⟨S, hS⟩ : ∃ S, S = Crc.sum (xs.take 59) := ⟨_, rfl⟩
  have HS9 : Hid (S < 18446744073709551616) := by show _ < _; rw [hS]; exact Nat.lt_trans (Crc.sum_lt (fun y hy => x.byte y (List.mem_of_mem_take hy))) (by decide)
  have hwS : IntKind.u64.wrap (S : Int) = (S : Int) := by
    have : S < 4294967296 := by rw [hS]; exact Crc.sum_lt (fun y hy => x.byte y (List.mem_of_mem_take hy))
    simp [IntKind.wrap, IntKind.bits, IntKind.signed]
    omega
  have s1 : ∀ w, (Instr.slice 34 (.slice (some ⟨g, 0, none⟩) 64 c) (some (.int .i64 59)) (some (.int .i64 63)) none).run Tryz.prog w = .ok (.slice (some ⟨g, 59, none⟩) 4 (c - 59)) w := fun w => by
    have := sliceLH g 0 64 c 59 63 (by omega) (by omega) (by omega) w
    rw [Nat.zero_add] at this
    exact this
  have s2 : ∀ w, (Instr.slice 34 (.slice (some ⟨g, 0, none⟩) 64 c) none (some (.int .i64 59)) none).run Tryz.prog w = .ok (.slice (some ⟨g, 0, none⟩) 59 c) w := fun w => sliceH g 0 64 c 59 (by omega) (by omega) w
  have HR : Hid (Rb w (some ⟨g, 0, none⟩) 59 (xs.take 59)) := by
    have := x.rb.mid (l := 0) (m := 59) (by omega)
    rw [List.drop_zero, Nat.add_zero] at this
    exact this
  have HC1 : Hid (∀ u, Kp (fun _ => False) w u → Calls Tryz.prog 228 #[.slice (some ⟨g, 0, none⟩) 59 c] u fun e w' => e = .returned (.int .u32 (S : Int)) ∧ w' = u) := fun u k => by
    rw [hS]
    exact sum_any _ 59 c _ u (HR.out.keep0 k) (by omega) (fun j hj => k.cellv (ht j hj) id)
  have HC2 : Hid (∀ u, Kp (fun _ => False) w u → Calls Tryz.prog 206 #[.slice (some ⟨g, 59, none⟩) 4 (c - 59), .int .u64 (S : Int)] u fun e w' => e = .returned (.tuple #[]) ∧ Kp (fun b => b = g) u w' ∧ Bk w' base g cap 64 (spl xs 59 (big S 4))) := fun u k => putNumber_ok (HX.out.keep0 k) 59 4 (c - 59) S (by omega) (by omega) (by omega) HS9.out
  have hE : (spl xs 59 (big S 4)).set 63 167 = sealB xs := by rw [hS]; exact sealB_eq x.len
  have HE : Hid ((spl xs 59 (big S 4)).set 63 167 = sealB xs) := hE
  have k0 : Kp (fun _ => False) w w := Kp.refl _ _
  clear x ht hS hE
  go_enter Tryz.func208, Tryz.ntmps208
  go_wp2
  go_region_with (first
    | (go_at_call 228; refine (HC1.out _ k0.drew).mono ?_; rintro e9 wa ⟨rfl, rfl⟩)
    | (go_at_call 206; refine (HC2.out _ k0.drew).mono ?_; rintro e9 wb ⟨rfl, kb, bb⟩))
  have kk : Kp (fun b => b = g) w wb := (k0.drew.mono (fun _ _ e => e.elim)).trans kb (fun _ _ e => e)
  have f3 := bb.fz 63
  have c3 := bb.cell (j := 63) (by omega)
  have HF : Hid (Kp (fun b => b = g) w (wb.setCell ⟨g, 63, none⟩ (.int .u8 167)) ∧ Bk (wb.setCell ⟨g, 63, none⟩ (.int .u8 167)) base g cap 64 (sealB xs)) := ⟨kk.trans kp_set (fun _ _ e => e), by
    have := bb.set (j := 63) (y := 167) (by omega) (by omega)
    rw [HE.out] at this
    exact this⟩
  clear kk bb kb k0
  go_wp2
  go_ret
  exact ⟨rfl, HF.out⟩

/-- bytes.Equal of whatever -/
theorem str_injW {xs ys : List Nat} (hx : ∀ x ∈ xs, x < 256) (hy : ∀ y ∈ ys, y < 256) (h : str xs = str ys) : xs = ys := by
  have e : (str xs).data.toList = (str ys).data.toList := by rw [h]
  simp only [str, strOfNums_data, List.map_map] at e
  have back : ∀ {l : List Nat}, (∀ x ∈ l, x < 256) → (l.map ((fun n : Int => UInt8.ofNat n.toNat) ∘ fun x : Nat => (x : Int))).map (fun u => u.toNat) = l := by
    intro l hl
    rw [List.map_map]
    conv => rhs; rw [← List.map_id l]
    refine List.map_congr_left (fun x hx => ?_)
    have := hl x hx
    simp [UInt8.toNat_ofNat', Nat.mod_eq_of_lt this]
  rw [← back hx, ← back hy, e]
theorem str_neW {xs ys : List Nat} (hx : ∀ x ∈ xs, x < 256) (hy : ∀ y ∈ ys, y < 256) (h : xs ≠ ys) : ((str xs).toList == (str ys).toList) = false := by
  rw [beq_eq_false_iff_ne]
  intro e
  refine h (str_injW hx hy ?_)
  have e2 : (str xs).data.toList = (str ys).data.toList := by
    unfold str at e ⊢
    rw [Go.Lib.strOfNums_toList, Go.Lib.strOfNums_toList] at e
    exact e
  have e3 : (str xs).data = (str ys).data := Array.ext' e2
  exact ByteArray.ext e3
set_option maxRecDepth 100000 in
set_option maxHeartbeats 800000 in
theorem bytesEqW (v1 v2 : Value) (b1 b2 : ByteArray) (w : World) (h1 : (convert 34 9 v1).run Tryz.prog w = .ok (.string b1) w) (h2 : (convert 34 9 v2).run Tryz.prog w = .ok (.string b2) w) :
    Calls Tryz.prog 20 #[v1, v2] w fun e w' => e = .returned (.bool (b1.toList == b2.toList)) ∧ w' = w := by
  go_enter Tryz.func20, Tryz.ntmps20
  go_wp2
  go_ret
  exact ⟨rfl, rfl⟩
theorem equal_any {p q : Option Addr} {n m : Nat} {xs ys : List Nat} (c d : Nat) (w : World) (h1 : Rb w p n xs) (h2 : Rb w q m ys) :
    Calls Tryz.prog 20 #[.slice p n c, .slice q m d] w fun e w' => e = .returned (.bool (decide (xs = ys))) ∧ w' = w := by
  refine (bytesEqW _ _ _ _ w (convert_bytes p n c _ w h1) (convert_bytes q m d _ w h2)).mono fun e w' ⟨he, hw⟩ => ⟨?_, hw⟩
  rw [he]
  congr 2
  by_cases h : xs = ys
  · rw [h]; simp
  · rw [str_neW h1.byte h2.byte h]; simp [h]
end Go.Proofs.YtmooddbhcccicaaGreatDoor

/- A head's sector (laid by scripts/mkai.py). -/
namespace Go.Proofs.YtmooddbhcccicaaGreatDoor
set_option linter.unusedVariables false
set_option linter.unusedSimpArgs false
open Go.RowKit Go.Deep

/-- a head's parts, without the sum and the last byte -/
def hdP (a b c d : Nat) : List Nat := spl (spl (spl (spl ((nouW 64).set 0 104) 1 (big a 8)) 9 (big b 8)) 17 (big c 8)) 25 (big d 8)
def hdB (a b c d : Nat) : List Nat := sealB (hdP a b c d)
abbrev headV (a b c d : Int) : Value := .agg #[.int .i64 a, .int .i64 b, .int .i64 c, .int .i64 d]
theorem four0 (a b c d : Int) (w : World) : (Instr.index 289 (headV a b c d) (.int .i64 0)).run Tryz.prog w = .ok (.int .i64 a) w := by kernel_rfl
theorem four1 (a b c d : Int) (w : World) : (Instr.index 289 (headV a b c d) (.int .i64 1)).run Tryz.prog w = .ok (.int .i64 b) w := by kernel_rfl
theorem four2 (a b c d : Int) (w : World) : (Instr.index 289 (headV a b c d) (.int .i64 2)).run Tryz.prog w = .ok (.int .i64 c) w := by kernel_rfl
theorem four3 (a b c d : Int) (w : World) : (Instr.index 289 (headV a b c d) (.int .i64 3)).run Tryz.prog w = .ok (.int .i64 d) w := by kernel_rfl
theorem wrap_u64 {n : Nat} (h : n ≤ 1152921504606846976) : IntKind.u64.wrap (n : Int) = (n : Int) := by
  simp [IntKind.wrap, IntKind.bits, IntKind.signed]
  omega

set_option maxRecDepth 100000 in
set_option maxHeartbeats 1600000 in
theorem hsector_ok (a b c d : Nat) (w : World) (ha : a ≤ 1152921504606846976) (hb : b ≤ 1152921504606846976) (hc : c ≤ 1152921504606846976) (hd : d ≤ 1152921504606846976) (ht : Turns w) :
    Calls Tryz.prog 222 #[headV a b c d] w fun e w' => ∃ g, w.heap.size ≤ g ∧ e = .returned (.slice (some ⟨g, 0, none⟩) 64 64) ∧ Kp (fun _ => False) w w' ∧ Bk w' w.heap.size g 64 64 (hdB a b c d) := by
  have HA : Hid (a ≤ 1152921504606846976 ∧ b ≤ 1152921504606846976 ∧ c ≤ 1152921504606846976 ∧ d ≤ 1152921504606846976) := ⟨ha, hb, hc, hd⟩
  have wa := wrap_u64 ha
  have wb := wrap_u64 hb
  have wc := wrap_u64 hc
  have wd := wrap_u64 hd
  have i0 := four0 (a : Int) b c d
  have i1 := four1 (a : Int) b c d
  have i2 := four2 (a : Int) b c d
  have i3 := four3 (a : Int) b c d
  have HT : Hid (Turns w) := ht
  obtain ⟨h, hh⟩ : ∃ h, h = w.heap.size := ⟨_, rfl⟩
  obtain ⟨w0, hw0⟩ : ∃ y, y = w.alloc (.cells #[.int .i64 (a : Int), .int .i64 (b : Int), .int .i64 (c : Int), .int .i64 (d : Int)] 155) := ⟨_, rfl⟩
  have hL0 : Lv w0 h [.int .i64 (a : Int), .int .i64 (b : Int), .int .i64 (c : Int), .int .i64 (d : Int)] := by rw [hw0, hh]; exact Lv.new w _ _
  have k0 : Kp (fun _ => False) w w0 := by rw [hw0]; exact (Kp.refl _ _).alloc _
  have z0 : w0.heap.size = w.heap.size + 1 := by rw [hw0]; simp
  have HK0 : Hid (Kp (fun _ => False) w w0 ∧ w0.heap.size = w.heap.size + 1 ∧ h = w.heap.size) := ⟨k0, z0, hh⟩
  have HL0 : Hid (Lv w0 h [.int .i64 (a : Int), .int .i64 (b : Int), .int .i64 (c : Int), .int .i64 (d : Int)]) := hL0
  clear ha hb hc hd ht hL0 k0 z0
  go_enter Tryz.func222, Tryz.ntmps222
  go_upto_region 1 with fail
  rw [← hw0, ← hh]
  clear hw0 hh
  go_wp2_with fail
  refine (blankS_ok w0).mono ?_
  rintro e9 w1 ⟨g, hg, rfl, k1, x1⟩
  have HG : Hid (w.heap.size ≤ g ∧ g ≠ h ∧ Kp (fun _ => False) w w1) := ⟨by have := HK0.out; omega, by have := HK0.out; omega, HK0.out.1.trans k1 (fun _ _ e => e)⟩
  have HL1 : Hid (Lv w1 h [.int .i64 (a : Int), .int .i64 (b : Int), .int .i64 (c : Int), .int .i64 (d : Int)]) := HL0.out.keep k1 id
  have f0 := x1.fz 0
  have c0 := x1.cell (j := 0) (by omega)
  obtain ⟨w2, hw2⟩ : ∃ y, y = w1.setCell ⟨g, 0, none⟩ (.int .u8 104) := ⟨_, rfl⟩
  have x2 := x1.set (j := 0) (y := 104) (by omega) (by omega)
  have k2 : Kp (fun b => b = g) w1 w2 := by rw [hw2]; exact kp_set
  rw [show ((104 : Nat) : Int) = 104 from rfl, ← hw2] at x2
  have HB0 : Hid (Bk w2 w0.heap.size g 64 64 ((nouW 64).set 0 104)) := x2
  have HKa : Hid (Kp (fun b => b = g) w1 w2) := k2
  have hl2 : Lv w2 h [.int .i64 (a : Int), .int .i64 (b : Int), .int .i64 (c : Int), .int .i64 (d : Int)] := HL1.out.keep k2 (fun e => HG.out.2.1 e.symm)
  have q0 := hl2.cell (j := 0) rfl
  have q1 := hl2.cell (j := 1) rfl
  have q2 := hl2.cell (j := 2) rfl
  have q3 := hl2.cell (j := 3) rfl
  clear x1 x2 k1 k2 hg hl2 HL1
  go_upto_region 3 with fail
  rw [← hw2]
  clear hw2 f0 c0
  go_wp2
  refine wp_loop_rounds 5 ?_
  rw [rounds_succ]
  have s0 : ∀ w, (Instr.slice 34 (.slice (some ⟨g, 0, none⟩) 64 64) (some (.int .i64 1)) (some (.int .i64 9)) none).run Tryz.prog w = .ok (.slice (some ⟨g, 1, none⟩) 8 63) w := fun w => sliceLH g 0 64 64 1 9 (by omega) (by omega) (by omega) w
  go_wp2_with fail
  refine (putNumber_ok HB0.out 1 8 63 a (by omega) (by omega) (by omega) (by have := HA.out; omega)).mono ?_
  rintro e9 w3 ⟨rfl, k9, x9⟩
  have HB1 : Hid (Bk w3 w0.heap.size g 64 64 (spl ((nouW 64).set 0 104) 1 (big a 8))) := x9
  have HKb0 : Hid (Kp (fun b => b = g) w1 w3) := HKa.out.trans k9 (fun _ _ e => e)
  clear k9 x9 s0 HB0
  go_wp2_with fail
  rw [rounds_succ]
  have s1 : ∀ w, (Instr.slice 34 (.slice (some ⟨g, 0, none⟩) 64 64) (some (.int .i64 9)) (some (.int .i64 17)) none).run Tryz.prog w = .ok (.slice (some ⟨g, 9, none⟩) 8 55) w := fun w => sliceLH g 0 64 64 9 17 (by omega) (by omega) (by omega) w
  go_wp2_with fail
  refine (putNumber_ok HB1.out 9 8 55 b (by omega) (by omega) (by omega) (by have := HA.out; omega)).mono ?_
  rintro e9 w4 ⟨rfl, k9, x9⟩
  have HB2 : Hid (Bk w4 w0.heap.size g 64 64 (spl (spl ((nouW 64).set 0 104) 1 (big a 8)) 9 (big b 8))) := x9
  have HKb1 : Hid (Kp (fun b => b = g) w1 w4) := HKb0.out.trans k9 (fun _ _ e => e)
  clear k9 x9 s1 HB1
  go_wp2_with fail
  rw [rounds_succ]
  have s2 : ∀ w, (Instr.slice 34 (.slice (some ⟨g, 0, none⟩) 64 64) (some (.int .i64 17)) (some (.int .i64 25)) none).run Tryz.prog w = .ok (.slice (some ⟨g, 17, none⟩) 8 47) w := fun w => sliceLH g 0 64 64 17 25 (by omega) (by omega) (by omega) w
  go_wp2_with fail
  refine (putNumber_ok HB2.out 17 8 47 c (by omega) (by omega) (by omega) (by have := HA.out; omega)).mono ?_
  rintro e9 w5 ⟨rfl, k9, x9⟩
  have HB3 : Hid (Bk w5 w0.heap.size g 64 64 (spl (spl (spl ((nouW 64).set 0 104) 1 (big a 8)) 9 (big b 8)) 17 (big c 8))) := x9
  have HKb2 : Hid (Kp (fun b => b = g) w1 w5) := HKb1.out.trans k9 (fun _ _ e => e)
  clear k9 x9 s2 HB2
  go_wp2_with fail
  rw [rounds_succ]
  have s3 : ∀ w, (Instr.slice 34 (.slice (some ⟨g, 0, none⟩) 64 64) (some (.int .i64 25)) (some (.int .i64 33)) none).run Tryz.prog w = .ok (.slice (some ⟨g, 25, none⟩) 8 39) w := fun w => sliceLH g 0 64 64 25 33 (by omega) (by omega) (by omega) w
  go_wp2_with fail
  refine (putNumber_ok HB3.out 25 8 39 d (by omega) (by omega) (by omega) (by have := HA.out; omega)).mono ?_
  rintro e9 w6 ⟨rfl, k9, x9⟩
  have HB4 : Hid (Bk w6 w0.heap.size g 64 64 (spl (spl (spl (spl ((nouW 64).set 0 104) 1 (big a 8)) 9 (big b 8)) 17 (big c 8)) 25 (big d 8))) := x9
  have HKb3 : Hid (Kp (fun b => b = g) w1 w6) := HKb2.out.trans k9 (fun _ _ e => e)
  clear k9 x9 s3 HB3
  go_wp2_with fail
  rw [rounds_succ]
  have htw : Turns w6 := fun j hj => (HKb3.out.cellv (HG.out.2.2.cellv (HT.out j hj) id) (fun e => by
    have h1 := World.block_lt_of_cell? _ _ (HT.out j hj)
    have h2 := HG.out.1
    have e' : (0 : Nat) = g := e
    have h1' : (0 : Nat) < w.heap.size := h1
    omega))
  have HS : Hid (Calls _ _ _ w6 _) := seal_ok HB4.out htw 64 (by omega)
  clear htw
  go_wp2_with fail
  refine HS.out.mono ?_
  rintro e9 w7 ⟨rfl, k9, x9⟩
  have HF : Hid (Kp (fun _ => False) w w7 ∧ Bk w7 w.heap.size g 64 64 (hdB a b c d)) := by
    refine ⟨(HG.out.2.2.mono (fun _ _ e => e.elim)).trans (S := fun _ => False) (HKb3.out.trans k9 (fun _ _ e => e)) (fun b hb e => by have := HG.out.1; omega), ⟨x9.len, x9.byte, ownsRow_base x9.ow HK0.out.1.size⟩⟩
  have HG1 : Hid (w.heap.size ≤ g) := HG.out.1
  clear k9 x9 HS
  go_wp2
  go_ret
  exact ⟨g, HG1.out, rfl, HF.out⟩
end Go.Proofs.YtmooddbhcccicaaGreatDoor

/- Texts of this proof, joined: Aj, Ak. -/
/- What a sector says: headOf; whether it is right. -/
namespace Go.Proofs.YtmooddbhcccicaaGreatDoor
set_option linter.unusedVariables false
set_option linter.unusedSimpArgs false
open Go.RowKit Go.Deep

/-- the number in the eight bytes from o on -/
def numAt (xs : List Nat) (o : Nat) : Int := i64Of (hfW ((xs.drop o).take 8))

set_option maxRecDepth 100000 in
set_option maxHeartbeats 800000 in
theorem headOf1_0 (r g q c : Nat) (xs : List Nat) (w : World) (hb : w.cell? ⟨r, 0, none⟩ = some (.slice (some ⟨g, q, none⟩) 64 c)) (hc : 64 ≤ c) (h : Rb w (some ⟨g, q, none⟩) 64 xs) :
    Calls Tryz.prog 219 #[.int .i64 0, .pointer (some ⟨r, 0, none⟩)] w fun e w' => e = .returned (.int .i64 (numAt xs 1)) ∧ Kp (fun _ => False) w w' := by
  obtain ⟨z, hz⟩ : ∃ z, z = numAt xs 1 := ⟨_, rfl⟩
  have HN : Hid (Calls Tryz.prog 220 #[.slice (some ⟨g, q + 1, none⟩) 8 (c - 1)] w fun e w' => e = .returned (.int .i64 z) ∧ Kp (fun _ => False) w w') := by
    rw [hz]
    exact numberOf_kp (h.mid (l := 1) (m := 8) (by omega)) (c - 1) (by omega)
  rw [← hz]
  clear hz
  have hs : ∀ w, (Instr.slice 34 (.slice (some ⟨g, q, none⟩) 64 c) (some (.int .i64 1)) (some (.int .i64 9)) none).run Tryz.prog w = .ok (.slice (some ⟨g, q + 1, none⟩) 8 (c - 1)) w := fun w => sliceLH g q 64 c 1 9 (by omega) (by omega) (by omega) w
  clear h
  go_enter Tryz.func219, Tryz.ntmps219
  go_wp2_with fail
  refine HN.out.mono ?_
  rintro e9 w1 ⟨rfl, k1⟩
  have HK : Hid (Kp (fun _ => False) w w1) := k1
  clear k1 HN
  go_wp2
  go_ret
  exact ⟨rfl, HK.out⟩

set_option maxRecDepth 100000 in
set_option maxHeartbeats 800000 in
theorem headOf1_1 (r g q c : Nat) (xs : List Nat) (w : World) (hb : w.cell? ⟨r, 0, none⟩ = some (.slice (some ⟨g, q, none⟩) 64 c)) (hc : 64 ≤ c) (h : Rb w (some ⟨g, q, none⟩) 64 xs) :
    Calls Tryz.prog 219 #[.int .i64 1, .pointer (some ⟨r, 0, none⟩)] w fun e w' => e = .returned (.int .i64 (numAt xs 9)) ∧ Kp (fun _ => False) w w' := by
  obtain ⟨z, hz⟩ : ∃ z, z = numAt xs 9 := ⟨_, rfl⟩
  have HN : Hid (Calls Tryz.prog 220 #[.slice (some ⟨g, q + 9, none⟩) 8 (c - 9)] w fun e w' => e = .returned (.int .i64 z) ∧ Kp (fun _ => False) w w') := by
    rw [hz]
    exact numberOf_kp (h.mid (l := 9) (m := 8) (by omega)) (c - 9) (by omega)
  rw [← hz]
  clear hz
  have hs : ∀ w, (Instr.slice 34 (.slice (some ⟨g, q, none⟩) 64 c) (some (.int .i64 9)) (some (.int .i64 17)) none).run Tryz.prog w = .ok (.slice (some ⟨g, q + 9, none⟩) 8 (c - 9)) w := fun w => sliceLH g q 64 c 9 17 (by omega) (by omega) (by omega) w
  clear h
  go_enter Tryz.func219, Tryz.ntmps219
  go_wp2_with fail
  refine HN.out.mono ?_
  rintro e9 w1 ⟨rfl, k1⟩
  have HK : Hid (Kp (fun _ => False) w w1) := k1
  clear k1 HN
  go_wp2
  go_ret
  exact ⟨rfl, HK.out⟩

set_option maxRecDepth 100000 in
set_option maxHeartbeats 800000 in
theorem headOf1_2 (r g q c : Nat) (xs : List Nat) (w : World) (hb : w.cell? ⟨r, 0, none⟩ = some (.slice (some ⟨g, q, none⟩) 64 c)) (hc : 64 ≤ c) (h : Rb w (some ⟨g, q, none⟩) 64 xs) :
    Calls Tryz.prog 219 #[.int .i64 2, .pointer (some ⟨r, 0, none⟩)] w fun e w' => e = .returned (.int .i64 (numAt xs 17)) ∧ Kp (fun _ => False) w w' := by
  obtain ⟨z, hz⟩ : ∃ z, z = numAt xs 17 := ⟨_, rfl⟩
  have HN : Hid (Calls Tryz.prog 220 #[.slice (some ⟨g, q + 17, none⟩) 8 (c - 17)] w fun e w' => e = .returned (.int .i64 z) ∧ Kp (fun _ => False) w w') := by
    rw [hz]
    exact numberOf_kp (h.mid (l := 17) (m := 8) (by omega)) (c - 17) (by omega)
  rw [← hz]
  clear hz
  have hs : ∀ w, (Instr.slice 34 (.slice (some ⟨g, q, none⟩) 64 c) (some (.int .i64 17)) (some (.int .i64 25)) none).run Tryz.prog w = .ok (.slice (some ⟨g, q + 17, none⟩) 8 (c - 17)) w := fun w => sliceLH g q 64 c 17 25 (by omega) (by omega) (by omega) w
  clear h
  go_enter Tryz.func219, Tryz.ntmps219
  go_wp2_with fail
  refine HN.out.mono ?_
  rintro e9 w1 ⟨rfl, k1⟩
  have HK : Hid (Kp (fun _ => False) w w1) := k1
  clear k1 HN
  go_wp2
  go_ret
  exact ⟨rfl, HK.out⟩

set_option maxRecDepth 100000 in
set_option maxHeartbeats 800000 in
theorem headOf1_3 (r g q c : Nat) (xs : List Nat) (w : World) (hb : w.cell? ⟨r, 0, none⟩ = some (.slice (some ⟨g, q, none⟩) 64 c)) (hc : 64 ≤ c) (h : Rb w (some ⟨g, q, none⟩) 64 xs) :
    Calls Tryz.prog 219 #[.int .i64 3, .pointer (some ⟨r, 0, none⟩)] w fun e w' => e = .returned (.int .i64 (numAt xs 25)) ∧ Kp (fun _ => False) w w' := by
  obtain ⟨z, hz⟩ : ∃ z, z = numAt xs 25 := ⟨_, rfl⟩
  have HN : Hid (Calls Tryz.prog 220 #[.slice (some ⟨g, q + 25, none⟩) 8 (c - 25)] w fun e w' => e = .returned (.int .i64 z) ∧ Kp (fun _ => False) w w') := by
    rw [hz]
    exact numberOf_kp (h.mid (l := 25) (m := 8) (by omega)) (c - 25) (by omega)
  rw [← hz]
  clear hz
  have hs : ∀ w, (Instr.slice 34 (.slice (some ⟨g, q, none⟩) 64 c) (some (.int .i64 25)) (some (.int .i64 33)) none).run Tryz.prog w = .ok (.slice (some ⟨g, q + 25, none⟩) 8 (c - 25)) w := fun w => sliceLH g q 64 c 25 33 (by omega) (by omega) (by omega) w
  clear h
  go_enter Tryz.func219, Tryz.ntmps219
  go_wp2_with fail
  refine HN.out.mono ?_
  rintro e9 w1 ⟨rfl, k1⟩
  have HK : Hid (Kp (fun _ => False) w w1) := k1
  clear k1 HN
  go_wp2
  go_ret
  exact ⟨rfl, HK.out⟩

theorem szHead : (Tryz.prog.info? 155).map (·.size) = some 4 := by kernel_rfl
theorem dsHead : ∃ d, Tryz.prog.underlying 155 = some d ∧ d.isRow = true := ⟨_, Tryz.underlying155, rfl⟩
set_option maxRecDepth 100000 in
set_option maxHeartbeats 1600000 in
theorem headOf_ok (g q c : Nat) (xs : List Nat) (w : World) (hc : 64 ≤ c) (h : Rb w (some ⟨g, q, none⟩) 64 xs) :
    Calls Tryz.prog 191 #[.slice (some ⟨g, q, none⟩) 64 c] w fun e w' => e = .returned (headV (numAt xs 1) (numAt xs 9) (numAt xs 17) (numAt xs 25)) ∧ Kp (fun _ => False) w w' := by
  have HR : Hid (Rb w (some ⟨g, q, none⟩) 64 xs) := h
  have HC : Hid (64 ≤ c) := hc
  clear h hc
  go_enter Tryz.func191, Tryz.ntmps191
  obtain ⟨z0, hz0⟩ : ∃ z, z = numAt xs 1 := ⟨_, rfl⟩
  obtain ⟨z1, hz1⟩ : ∃ z, z = numAt xs 9 := ⟨_, rfl⟩
  obtain ⟨z2, hz2⟩ : ∃ z, z = numAt xs 17 := ⟨_, rfl⟩
  obtain ⟨z3, hz3⟩ : ∃ z, z = numAt xs 25 := ⟨_, rfl⟩
  obtain ⟨r, hr⟩ : ∃ r, r = w.heap.size := ⟨_, rfl⟩
  obtain ⟨m, hm⟩ : ∃ m, m = w.heap.size + 1 := ⟨_, rfl⟩
  obtain ⟨w0, hw0⟩ : ∃ y, y = (w.alloc (.cells #[.slice (some ⟨g, q, none⟩) 64 c] 34)).alloc (.cells #[.int .i64 0, .int .i64 0, .int .i64 0, .int .i64 0] 155) := ⟨_, rfl⟩
  have zz : (w.alloc (.cells #[.slice (some ⟨g, q, none⟩) 64 c] 34)).heap.size = w.heap.size + 1 := by simp
  have HK0 : Hid (Kp (fun _ => False) w w0) := by rw [hw0]; exact ((Kp.refl _ _).alloc _).alloc _
  have HB0 : Hid (Lv w0 r [.slice (some ⟨g, q, none⟩) 64 c]) := by rw [hw0, hr]; exact (Lv.new w _ _).keep ((Kp.refl (fun _ => False) _).alloc _) id
  have HM0 : Hid (Lv w0 m [.int .i64 0, .int .i64 0, .int .i64 0, .int .i64 0]) := by rw [hw0, hm, ← zz]; exact Lv.new _ _ _
  have HC0 : Hid (∀ u, Kp (fun _ => False) w0 u → Calls Tryz.prog 219 #[.int .i64 0, .pointer (some ⟨r, 0, none⟩)] u fun e w' => e = .returned (.int .i64 z0) ∧ Kp (fun _ => False) u w') := fun u k => by rw [hz0]; exact headOf1_0 r g q c xs u (k.cellv (HB0.out.cell (j := 0) rfl) id) HC.out ((HR.out.keep0 HK0.out).keep0 k)
  have HC1 : Hid (∀ u, Kp (fun _ => False) w0 u → Calls Tryz.prog 219 #[.int .i64 1, .pointer (some ⟨r, 0, none⟩)] u fun e w' => e = .returned (.int .i64 z1) ∧ Kp (fun _ => False) u w') := fun u k => by rw [hz1]; exact headOf1_1 r g q c xs u (k.cellv (HB0.out.cell (j := 0) rfl) id) HC.out ((HR.out.keep0 HK0.out).keep0 k)
  have HC2 : Hid (∀ u, Kp (fun _ => False) w0 u → Calls Tryz.prog 219 #[.int .i64 2, .pointer (some ⟨r, 0, none⟩)] u fun e w' => e = .returned (.int .i64 z2) ∧ Kp (fun _ => False) u w') := fun u k => by rw [hz2]; exact headOf1_2 r g q c xs u (k.cellv (HB0.out.cell (j := 0) rfl) id) HC.out ((HR.out.keep0 HK0.out).keep0 k)
  have HC3 : Hid (∀ u, Kp (fun _ => False) w0 u → Calls Tryz.prog 219 #[.int .i64 3, .pointer (some ⟨r, 0, none⟩)] u fun e w' => e = .returned (.int .i64 z3) ∧ Kp (fun _ => False) u w') := fun u k => by rw [hz3]; exact headOf1_3 r g q c xs u (k.cellv (HB0.out.cell (j := 0) rfl) id) HC.out ((HR.out.keep0 HK0.out).keep0 k)
  rw [← hz0, ← hz1, ← hz2, ← hz3]
  clear hz0 hz1 hz2 hz3 HR HC zz
  go_wp2_with fail
  rw [← hw0, ← hm, ← hr]
  have HX9 : Hid (w.heap.size < m) := by show _ < _; omega
  clear hw0 hr hm
  refine (HC0.out w0 (Kp.refl _ _)).mono ?_
  rintro e9 w1 ⟨rfl, k1⟩
  have HK1 : Hid (Kp (fun _ => False) w0 w1) := k1
  clear k1
  go_wp2_with fail
  refine (HC1.out w1 HK1.out).mono ?_
  rintro e9 w2 ⟨rfl, k1⟩
  have HK2 : Hid (Kp (fun _ => False) w0 w2) := HK1.out.trans k1 (fun _ _ e => e)
  clear k1
  go_wp2_with fail
  refine (HC2.out w2 HK2.out).mono ?_
  rintro e9 w3 ⟨rfl, k1⟩
  have HK3 : Hid (Kp (fun _ => False) w0 w3) := HK2.out.trans k1 (fun _ _ e => e)
  clear k1
  go_wp2_with fail
  refine (HC3.out w3 HK3.out).mono ?_
  rintro e9 w4 ⟨rfl, k1⟩
  have HK4 : Hid (Kp (fun _ => False) w0 w4) := HK3.out.trans k1 (fun _ _ e => e)
  have HM4 : Hid (Lv w4 m [.int .i64 0, .int .i64 0, .int .i64 0, .int .i64 0]) := HM0.out.keep HK4.out id
  clear k1
  have c0 := HM4.out.cell (j := 0) rfl
  have c1 := HM4.out.cell (j := 1) rfl
  have c2 := HM4.out.cell (j := 2) rfl
  have c3 := HM4.out.cell (j := 3) rfl
  have f0 := HM4.out.fz (j := 0) (by decide)
  have f1 := HM4.out.fz (j := 1) (by decide)
  have f2 := HM4.out.fz (j := 2) (by decide)
  have f3 := HM4.out.fz (j := 3) (by decide)
  obtain ⟨w5, hw5⟩ : ∃ y, y = (((w4.setCell ⟨m, 0, none⟩ (.int .i64 z0)).setCell ⟨m, 1, none⟩ (.int .i64 z1)).setCell ⟨m, 2, none⟩ (.int .i64 z2)).setCell ⟨m, 3, none⟩ (.int .i64 z3) := ⟨_, rfl⟩
  have hl5 : Lv w5 m [.int .i64 z0, .int .i64 z1, .int .i64 z2, .int .i64 z3] := by
    rw [hw5]
    have a1 : Lv (w4.setCell ⟨m, 0, none⟩ (.int .i64 z0)) m [.int .i64 z0, .int .i64 0, .int .i64 0, .int .i64 0] := HM4.out.set1 0 (.int .i64 z0) (by decide)
    have a2 : Lv ((w4.setCell ⟨m, 0, none⟩ (.int .i64 z0)).setCell ⟨m, 1, none⟩ (.int .i64 z1)) m [.int .i64 z0, .int .i64 z1, .int .i64 0, .int .i64 0] := a1.set1 1 (.int .i64 z1) (by simp)
    have a3 : Lv (((w4.setCell ⟨m, 0, none⟩ (.int .i64 z0)).setCell ⟨m, 1, none⟩ (.int .i64 z1)).setCell ⟨m, 2, none⟩ (.int .i64 z2)) m [.int .i64 z0, .int .i64 z1, .int .i64 z2, .int .i64 0] := a2.set1 2 (.int .i64 z2) (by simp)
    exact a3.set1 3 (.int .i64 z3) (by simp)
  have k5 : Kp (fun b => b = m) w4 w5 := by rw [hw5]; exact ((kp_set.trans kp_set (fun _ _ e => e)).trans kp_set (fun _ _ e => e)).trans kp_set (fun _ _ e => e)
  have hld := hl5.load dsHead szHead rfl
  have HF : Hid (Kp (fun _ => False) w w5) := ((HK0.out.trans HK4.out (fun _ _ e => e))).trans (S := fun _ => False) k5 (fun b hb e => by have := HX9.out; omega)
  have HLd : Hid ((loadVar 155 ⟨m, 0, none⟩).run Tryz.prog w5 = .ok (headV z0 z1 z2 z3) w5) := hld
  clear hl5 k5 hld
  go_wp2
  rw [← hw5]
  refine bodyPost_ret (res_cell Tryz.results191 _ _ m _ rfl HLd.out) rfl ?_
  exact ⟨rfl, HF.out⟩
end Go.Proofs.YtmooddbhcccicaaGreatDoor

/- Whether a sector is the head that it says. -/
namespace Go.Proofs.YtmooddbhcccicaaGreatDoor
set_option linter.unusedVariables false
set_option linter.unusedSimpArgs false
open Go.RowKit Go.Deep

def cntB (n : Int) : Bool := decide (1 ≤ n) && decide (n ≤ 1152921504606846976)
set_option maxRecDepth 100000 in
theorem counts_ok (n : Int) (w : World) : Calls Tryz.prog 221 #[.int .i64 n] w fun e w' => e = .returned (.bool (cntB n)) ∧ w' = w := by
  obtain ⟨a, ha⟩ : ∃ a, a = decide (1 ≤ n) := ⟨_, rfl⟩
  obtain ⟨b, hb⟩ : ∃ b, b = decide (n ≤ 1152921504606846976) := ⟨_, rfl⟩
  have e : cntB n = (a && b) := by rw [ha, hb]; rfl
  rw [e]
  cases a with
  | false =>
    have h1 : ¬ n ≥ 1 := of_decide_eq_false ha.symm
    clear ha hb e
    go_enter Tryz.func221, Tryz.ntmps221
    go_wp2
    go_ret
    exact ⟨rfl, rfl⟩
  | true =>
    have h1 : n ≥ 1 := of_decide_eq_true ha.symm
    cases b with
    | false =>
      have h2 : ¬ n ≤ 1152921504606846976 := of_decide_eq_false hb.symm
      clear ha hb e
      go_enter Tryz.func221, Tryz.ntmps221
      go_wp2
      go_ret
      exact ⟨rfl, rfl⟩
    | true =>
      have h2 : n ≤ 1152921504606846976 := of_decide_eq_true hb.symm
      clear ha hb e
      go_enter Tryz.func221, Tryz.ntmps221
      go_wp2
      go_ret
      exact ⟨rfl, rfl⟩

/-- whether the bytes are that head's, and it may stand there -/
def rightH (a b c d : Int) (xs : List Nat) (s n : Int) : Bool :=
  cntB a && (cntB b && (cntB d && (a.tmod 2 == s && (decide (0 ≤ c) && (decide (c < n) && decide (xs = hdB a.toNat b.toNat c.toNat d.toNat))))))

set_option maxRecDepth 100000 in
set_option maxHeartbeats 1600000 in
theorem hright_ok (a b c d : Int) (g q cp : Nat) (xs : List Nat) (s n : Int) (w : World) (h : Rb w (some ⟨g, q, none⟩) 64 xs) (ht : Turns w) (hn : n ≤ 1152921504606846976) :
    Calls Tryz.prog 192 #[headV a b c d, .slice (some ⟨g, q, none⟩) 64 cp, .int .i64 s, .int .i64 n] w fun e w' => e = .returned (.bool (rightH a b c d xs s n)) ∧ Kp (fun _ => False) w w' := by
  obtain ⟨b1, h1⟩ : ∃ x, x = cntB a := ⟨_, rfl⟩
  obtain ⟨b2, h2⟩ : ∃ x, x = cntB b := ⟨_, rfl⟩
  obtain ⟨b3, h3⟩ : ∃ x, x = cntB d := ⟨_, rfl⟩
  obtain ⟨b4, h4⟩ : ∃ x, x = (a.tmod 2 == s) := ⟨_, rfl⟩
  obtain ⟨b5, h5⟩ : ∃ x, x = decide (0 ≤ c) := ⟨_, rfl⟩
  obtain ⟨b6, h6⟩ : ∃ x, x = decide (c < n) := ⟨_, rfl⟩
  have HR : Hid (Rb w (some ⟨g, q, none⟩) 64 xs) := h
  have HT : Hid (Turns w) := ht
  have C1 : Hid (∀ u, Calls Tryz.prog 221 #[.int .i64 a] u fun e w' => e = .returned (.bool b1) ∧ w' = u) := fun u => by rw [h1]; exact counts_ok a u
  have C2 : Hid (∀ u, Calls Tryz.prog 221 #[.int .i64 b] u fun e w' => e = .returned (.bool b2) ∧ w' = u) := fun u => by rw [h2]; exact counts_ok b u
  have C3 : Hid (∀ u, Calls Tryz.prog 221 #[.int .i64 d] u fun e w' => e = .returned (.bool b3) ∧ w' = u) := fun u => by rw [h3]; exact counts_ok d u
  obtain ⟨r, hr⟩ : ∃ r, r = w.heap.size := ⟨_, rfl⟩
  obtain ⟨w0, hw0⟩ : ∃ y, y = w.alloc (.cells #[.int .i64 a, .int .i64 b, .int .i64 c, .int .i64 d] 155) := ⟨_, rfl⟩
  have HK0 : Hid (Kp (fun _ => False) w w0) := by rw [hw0]; exact (Kp.refl _ _).alloc _
  have HL0 : Hid (Lv w0 r [.int .i64 a, .int .i64 b, .int .i64 c, .int .i64 d]) := by rw [hw0, hr]; exact Lv.new w _ _
  have q0 := HL0.out.cell (j := 0) rfl
  have q1 := HL0.out.cell (j := 1) rfl
  have q2 := HL0.out.cell (j := 2) rfl
  have q3 := HL0.out.cell (j := 3) rfl
  have HE : Hid (rightH a b c d xs s n = (b1 && (b2 && (b3 && (b4 && (b5 && (b6 && decide (xs = hdB a.toNat b.toNat c.toNat d.toNat)))))))) := by rw [h1, h2, h3, h4, h5, h6]; rfl
  clear h ht
  cases b1 with
  | false =>
    rw [HE.out]
    simp only [Bool.false_and, Bool.true_and]
    clear h1 h2 h3 h4 h5 h6 HE
    go_enter Tryz.func192, Tryz.ntmps192
    go_upto_region 1 with fail
    rw [← hw0, ← hr]
    clear hw0 hr
    go_wp2_with fail
    refine (C1.out _).mono ?_
    rintro e9 w9 ⟨rfl, hw9⟩
    have hw8 := hw9.symm
    subst hw8
    clear hw9 C1
    go_wp2
    go_ret
    exact ⟨rfl, HK0.out⟩
  | true =>
    cases b2 with
    | false =>
      rw [HE.out]
      simp only [Bool.false_and, Bool.true_and]
      clear h1 h2 h3 h4 h5 h6 HE
      go_enter Tryz.func192, Tryz.ntmps192
      go_upto_region 1 with fail
      rw [← hw0, ← hr]
      clear hw0 hr
      go_wp2_with fail
      refine (C1.out _).mono ?_
      rintro e9 w9 ⟨rfl, hw9⟩
      have hw8 := hw9.symm
      subst hw8
      clear hw9 C1
      go_wp2_with fail
      refine (C2.out _).mono ?_
      rintro e9 w9 ⟨rfl, hw9⟩
      have hw8 := hw9.symm
      subst hw8
      clear hw9 C2
      go_wp2
      go_ret
      exact ⟨rfl, HK0.out⟩
    | true =>
      cases b3 with
      | false =>
        rw [HE.out]
        simp only [Bool.false_and, Bool.true_and]
        clear h1 h2 h3 h4 h5 h6 HE
        go_enter Tryz.func192, Tryz.ntmps192
        go_upto_region 1 with fail
        rw [← hw0, ← hr]
        clear hw0 hr
        go_wp2_with fail
        refine (C1.out _).mono ?_
        rintro e9 w9 ⟨rfl, hw9⟩
        have hw8 := hw9.symm
        subst hw8
        clear hw9 C1
        go_wp2_with fail
        refine (C2.out _).mono ?_
        rintro e9 w9 ⟨rfl, hw9⟩
        have hw8 := hw9.symm
        subst hw8
        clear hw9 C2
        go_wp2_with fail
        refine (C3.out _).mono ?_
        rintro e9 w9 ⟨rfl, hw9⟩
        have hw8 := hw9.symm
        subst hw8
        clear hw9 C3
        go_wp2
        go_ret
        exact ⟨rfl, HK0.out⟩
      | true =>
        cases b4 with
        | false =>
          rw [HE.out]
          simp only [Bool.false_and, Bool.true_and]
          have g4 : (a.tmod 2 == s) = false := h4.symm
          clear h1 h2 h3 h4 h5 h6 HE
          go_enter Tryz.func192, Tryz.ntmps192
          go_upto_region 1 with fail
          rw [← hw0, ← hr]
          clear hw0 hr
          go_wp2_with fail
          refine (C1.out _).mono ?_
          rintro e9 w9 ⟨rfl, hw9⟩
          have hw8 := hw9.symm
          subst hw8
          clear hw9 C1
          go_wp2_with fail
          refine (C2.out _).mono ?_
          rintro e9 w9 ⟨rfl, hw9⟩
          have hw8 := hw9.symm
          subst hw8
          clear hw9 C2
          go_wp2_with fail
          refine (C3.out _).mono ?_
          rintro e9 w9 ⟨rfl, hw9⟩
          have hw8 := hw9.symm
          subst hw8
          clear hw9 C3
          go_wp2
          go_ret
          exact ⟨rfl, HK0.out⟩
        | true =>
          cases b5 with
          | false =>
            rw [HE.out]
            simp only [Bool.false_and, Bool.true_and]
            have g4 : (a.tmod 2 == s) = true := h4.symm
            have g5 : ¬ c ≥ 0 := of_decide_eq_false h5.symm
            clear h1 h2 h3 h4 h5 h6 HE
            go_enter Tryz.func192, Tryz.ntmps192
            go_upto_region 1 with fail
            rw [← hw0, ← hr]
            clear hw0 hr
            go_wp2_with fail
            refine (C1.out _).mono ?_
            rintro e9 w9 ⟨rfl, hw9⟩
            have hw8 := hw9.symm
            subst hw8
            clear hw9 C1
            go_wp2_with fail
            refine (C2.out _).mono ?_
            rintro e9 w9 ⟨rfl, hw9⟩
            have hw8 := hw9.symm
            subst hw8
            clear hw9 C2
            go_wp2_with fail
            refine (C3.out _).mono ?_
            rintro e9 w9 ⟨rfl, hw9⟩
            have hw8 := hw9.symm
            subst hw8
            clear hw9 C3
            go_wp2
            go_ret
            exact ⟨rfl, HK0.out⟩
          | true =>
            cases b6 with
            | false =>
              rw [HE.out]
              simp only [Bool.false_and, Bool.true_and]
              have g4 : (a.tmod 2 == s) = true := h4.symm
              have g5 : c ≥ 0 := of_decide_eq_true h5.symm
              have g6 : ¬ c < n := of_decide_eq_false h6.symm
              clear h1 h2 h3 h4 h5 h6 HE
              go_enter Tryz.func192, Tryz.ntmps192
              go_upto_region 1 with fail
              rw [← hw0, ← hr]
              clear hw0 hr
              go_wp2_with fail
              refine (C1.out _).mono ?_
              rintro e9 w9 ⟨rfl, hw9⟩
              have hw8 := hw9.symm
              subst hw8
              clear hw9 C1
              go_wp2_with fail
              refine (C2.out _).mono ?_
              rintro e9 w9 ⟨rfl, hw9⟩
              have hw8 := hw9.symm
              subst hw8
              clear hw9 C2
              go_wp2_with fail
              refine (C3.out _).mono ?_
              rintro e9 w9 ⟨rfl, hw9⟩
              have hw8 := hw9.symm
              subst hw8
              clear hw9 C3
              go_wp2
              go_ret
              exact ⟨rfl, HK0.out⟩
            | true =>
              rw [HE.out]
              simp only [Bool.true_and]
              have e1 : 1 ≤ a ∧ a ≤ 1152921504606846976 := by
                have := h1.symm
                unfold cntB at this
                simpa using this
              have e2 : 1 ≤ b ∧ b ≤ 1152921504606846976 := by
                have := h2.symm
                unfold cntB at this
                simpa using this
              have e3 : 1 ≤ d ∧ d ≤ 1152921504606846976 := by
                have := h3.symm
                unfold cntB at this
                simpa using this
              have e5 : 0 ≤ c := of_decide_eq_true h5.symm
              have e6 : c < n := of_decide_eq_true h6.symm
              have HS : Hid (∀ u, Kp (fun _ => False) w0 u → Calls Tryz.prog 222 #[headV a b c d] u fun e w' => ∃ g, u.heap.size ≤ g ∧ e = .returned (.slice (some ⟨g, 0, none⟩) 64 64) ∧ Kp (fun _ => False) u w' ∧ Bk w' u.heap.size g 64 64 (hdB a.toNat b.toNat c.toNat d.toNat)) := fun u ku => by
                have := hsector_ok a.toNat b.toNat c.toNat d.toNat u (by omega) (by omega) (by omega) (by omega) (fun j hj => ku.cellv (HK0.out.cellv (HT.out j hj) id) id)
                rw [Int.toNat_of_nonneg (by omega), Int.toNat_of_nonneg (by omega), Int.toNat_of_nonneg e5, Int.toNat_of_nonneg (by omega)] at this
                exact this
              obtain ⟨ys, hys⟩ : ∃ ys, ys = hdB a.toNat b.toNat c.toNat d.toNat := ⟨_, rfl⟩
              rw [← hys] at HS ⊢
              clear e1 e2 e3 e5 e6 hys
              have g4 : (a.tmod 2 == s) = true := h4.symm
              have g5 : c ≥ 0 := of_decide_eq_true h5.symm
              have g6 : c < n := of_decide_eq_true h6.symm
              clear h1 h2 h3 h4 h5 h6 HE
              go_enter Tryz.func192, Tryz.ntmps192
              go_upto_region 1 with fail
              rw [← hw0, ← hr]
              clear hw0 hr
              go_wp2_with fail
              refine (C1.out _).mono ?_
              rintro e9 w9 ⟨rfl, hw9⟩
              have hw8 := hw9.symm
              subst hw8
              clear hw9 C1
              go_wp2_with fail
              refine (C2.out _).mono ?_
              rintro e9 w9 ⟨rfl, hw9⟩
              have hw8 := hw9.symm
              subst hw8
              clear hw9 C2
              go_wp2_with fail
              refine (C3.out _).mono ?_
              rintro e9 w9 ⟨rfl, hw9⟩
              have hw8 := hw9.symm
              subst hw8
              clear hw9 C3
              go_wp2_with fail
              refine (HS.out _ (Kp.refl _ _)).mono ?_
              rintro e9 w2 ⟨g2, _, rfl, k2, x2⟩
              have HK2 : Hid (Kp (fun _ => False) w w2) := HK0.out.trans k2 (fun _ _ e => e)
              have HQ : Hid (Calls _ _ _ w2 _) := equal_any cp 64 w2 (HR.out.keep0 HK2.out) x2.rb
              clear k2 x2 HS
              go_wp2_with fail
              refine HQ.out.mono ?_
              rintro e9 w9 ⟨rfl, hw9⟩
              have hw8 := hw9.symm
              subst hw8
              clear hw9 HQ
              obtain ⟨b7, h7⟩ : ∃ x, x = decide (xs = ys) := ⟨_, rfl⟩
              rw [← h7]
              have H7 : Hid (b7 = decide (xs = ys)) := h7
              clear h7
              go_wp2
              go_ret
              exact ⟨by show Ending.returned (.bool b7) = _; rw [H7.out], HK2.out⟩
end Go.Proofs.YtmooddbhcccicaaGreatDoor

/- Texts of this proof, joined: Al, Am. -/
/- A piece's sector. -/
namespace Go.Proofs.YtmooddbhcccicaaGreatDoor
set_option linter.unusedVariables false
set_option linter.unusedSimpArgs false
open Go.RowKit Go.Deep

theorem mixedW : Tryz.prog.follows .mixedOrders = true := by kernel_rfl
theorem wpList_copy_bk {w : World} {ops : Array Oper} {rest : List Oper} {o : Oper} {a : Act} {Q : Exit → Act → World → Prop} (hgd : o.guard = none) (dd s : Operand)
    (ho : o.op = .call { callee := .builtin .copy, args := #[dd, s], argTypes := #[34, 34] }) (base g cap N : Nat) (xs : List Nat) (x : Bk w base g cap N xs) (off dLen dc : Nat) (p : Option Addr) (n c : Nat) (ys : List Nat)
    (hd : a.eval dd = .slice (some ⟨g, off, none⟩) dLen dc) (hs : a.eval s = .slice p n c) (hr : Rb w p n ys) (h0 : 0 < n) (hn : n ≤ dLen) (hfit : off + n ≤ N)
    (h : ∀ w', Kp (fun b => b = g) w w' → Bk w' base g cap N (spl xs off ys) → wpList Tryz.prog ops Q rest (a.put o.dst (goInt n)) w') : wpList Tryz.prog ops Q (o :: rest) a w := by
  obtain ⟨br, ob, rfl, hcl⟩ := hr.pt h0
  have hl : (vl ys).length = n := by rw [vl_length, hr.len]
  obtain ⟨h1, h2⟩ := x.ow
  rcases h2 with ⟨h0', _⟩ | ⟨g', cap', cur, hv, hbg, hh, hnn, hcap, hsz, htake⟩
  · cases h0'
  · cases hv
    have hsz' : N ≤ cur.size := by omega
    refine wpList_copy_own (P := Tryz.prog) hgd dd s 34 34 ho 5 Tryz.underlying34 (by kernel_rfl) g off dLen dc ⟨br, ob, none⟩ n c hd hs cur 5 hh (vl ys) (by rw [hl]; exact (Nat.min_eq_left hn).symm) (fun j v hj => by
      have hj' : j < n := by have := (List.getElem?_eq_some_iff.1 hj).1; omega
      rw [vl_get (by rw [hr.len]; exact hj')] at hj
      rw [Addr.add_mid, ← Option.some.inj hj]
      exact hcl j hj') (by rw [hl]; omega) (vl_one ys) ?_
    rw [hl]
    have hys : ys.length = n := hr.len
    refine h _ ⟨rfl, rfl, rfl, by simp [World.setRow], fun k _ hne => setRow_other w g k _ hne⟩ ⟨by rw [spl_len (by rw [hys, x.len]; exact hfit)]; exact x.len, spl_byte x.byte hr.byte, ?_, Or.inr ⟨g, cap, _, rfl, hbg, setRow_heap w g cur _ _ _ hh, hnn, hcap, ?_, ?_⟩⟩
    · rw [vl_length, spl_len (by rw [hys, x.len]; exact hfit), x.len]; omega
    · simp [hl]; omega
    · dsimp only
      have hL : cur.toList = vl xs ++ cur.toList.drop (N * 1) := by rw [← htake, List.take_append_drop]
      have hxl : (vl xs).length = N := by rw [vl_length]; exact x.len
      have e1 : cur.toList.take off = (vl xs).take off := by rw [hL, List.take_append_of_le_length (by omega)]
      have e2 : cur.toList.drop (off + n) = (vl xs).drop (off + n) ++ cur.toList.drop (N * 1) := by
        conv => lhs; rw [hL]
        rw [List.drop_append_of_le_length (by omega)]
      have e3 : vl (spl xs off ys) = (vl xs).take off ++ (vl ys ++ (vl xs).drop (off + n)) := by
        unfold spl
        rw [vl_append, vl_append, List.append_assoc, hys]
        unfold vl
        rw [List.map_take, List.map_drop]
      have e4 : (vl (spl xs off ys)).length = N * 1 := by rw [vl_length, spl_len (by rw [hys, x.len]; exact hfit), x.len]; omega
      rw [e1, e2, ← List.append_assoc (vl ys), ← List.append_assoc, ← e3, ← e4]
      exact List.take_left
/-- a piece's parts, without the sum and the last byte -/
def pcP (u : Nat) (ys : List Nat) (f l : Bool) : List Nat := spl ((((spl ((nouW 64).set 0 114) 1 (big u 8)).set 9 ys.length).set 10 f.toNat).set 11 l.toNat) 12 ys
def pcB (u : Nat) (ys : List Nat) (f l : Bool) : List Nat := sealB (pcP u ys f l)
/-- an int in 64 bits -/
def u64Of (z : Int) : Nat := (z % 18446744073709551616).toNat
theorem u64Of_wrap (z : Int) : IntKind.u64.wrap z = ((u64Of z : Nat) : Int) := by
  unfold u64Of
  rw [Int.toNat_of_nonneg (Int.emod_nonneg _ (by decide))]
  simp [IntKind.wrap, IntKind.bits, IntKind.signed]
theorem u64Of_lt (z : Int) : u64Of z < 18446744073709551616 := by
  unfold u64Of
  have := Int.emod_lt_of_pos z (b := 18446744073709551616) (by decide)
  have := Int.emod_nonneg z (b := 18446744073709551616) (by decide)
  omega
abbrev pcV (z : Int) (v : Value) (f l : Bool) : Value := .agg #[.int .i64 z, v, .bool f, .bool l]

set_option maxRecDepth 100000 in
set_option maxHeartbeats 1600000 in
theorem psector_ok (z : Int) (p : Option Addr) (n c : Nat) (ys : List Nat) (f l : Bool) (w : World) (h : Rb w p n ys) (h0 : 0 < n) (hn : (n : Int) ≤ 40) (ht : Turns w) :
    Calls Tryz.prog 168 #[pcV z (.slice p n c) f l] w fun e w' => ∃ g, w.heap.size ≤ g ∧ e = .returned (.slice (some ⟨g, 0, none⟩) 64 64) ∧ Kp (fun _ => False) w w' ∧ Bk w' w.heap.size g 64 64 (pcB (u64Of z) ys f l) := by
  have HN : Hid (0 < n ∧ n ≤ 40 ∧ ys.length = n) := ⟨h0, by omega, h.len⟩
  have hz := u64Of_wrap z
  have HR : Hid (Rb w p n ys) := h
  have HT : Hid (Turns w) := ht
  obtain ⟨r, hr⟩ : ∃ r, r = w.heap.size := ⟨_, rfl⟩
  obtain ⟨w0, hw0⟩ : ∃ y, y = w.alloc (.cells #[.int .i64 z, .slice p n c, .bool f, .bool l] 232) := ⟨_, rfl⟩
  have HL0 : Hid (Lv w0 r [.int .i64 z, .slice p n c, .bool f, .bool l]) := by rw [hw0, hr]; exact Lv.new w _ _
  have k0 : Kp (fun _ => False) w w0 := by rw [hw0]; exact (Kp.refl _ _).alloc _
  have z0 : w0.heap.size = w.heap.size + 1 := by rw [hw0]; simp
  have HK0 : Hid (Kp (fun _ => False) w w0 ∧ w0.heap.size = w.heap.size + 1 ∧ r = w.heap.size) := ⟨k0, z0, hr⟩
  have hwn : IntKind.u8.wrap (n : Int) = (n : Int) := by simp [IntKind.wrap, IntKind.bits, IntKind.signed]; omega
  have sl1 : ∀ g (w : World), (Instr.slice 34 (.slice (some ⟨g, 0, none⟩) 64 64) (some (.int .i64 1)) (some (.int .i64 9)) none).run Tryz.prog w = .ok (.slice (some ⟨g, 1, none⟩) 8 63) w := fun g w => by
    have := sliceLH g 0 64 64 1 9 (by omega) (by omega) (by omega) w
    rw [Nat.zero_add] at this
    exact this
  have sl2 : ∀ g (w : World), (Instr.slice 34 (.slice (some ⟨g, 0, none⟩) 64 64) (some (.int .i64 12)) none none).run Tryz.prog w = .ok (.slice (some ⟨g, 12, none⟩) 52 52) w := fun g w => by
    have := sliceL g 0 64 64 12 (by omega) (by omega) w
    rw [Nat.zero_add] at this
    exact this
  clear h h0 hn ht k0 z0
  go_enter Tryz.func168, Tryz.ntmps168
  go_upto_region 1 with fail
  rw [← hw0, ← hr]
  clear hw0 hr
  go_wp2_with fail
  refine (blankS_ok w0).mono ?_
  rintro e9 w1 ⟨g, hg, rfl, k1, x1⟩
  have HG : Hid (w.heap.size ≤ g ∧ g ≠ r ∧ Kp (fun _ => False) w w1) := ⟨by have := HK0.out; omega, by have := HK0.out; omega, HK0.out.1.trans k1 (fun _ _ e => e)⟩
  have HL1 : Hid (Lv w1 r [.int .i64 z, .slice p n c, .bool f, .bool l]) := HL0.out.keep k1 id
  have f0 := x1.fz 0
  have c0 := x1.cell (j := 0) (by omega)
  obtain ⟨w2, hw2⟩ : ∃ y, y = w1.setCell ⟨g, 0, none⟩ (.int .u8 114) := ⟨_, rfl⟩
  have x2 := x1.set (j := 0) (y := 114) (by omega) (by omega)
  have k2 : Kp (fun b => b = g) w1 w2 := by rw [hw2]; exact kp_set
  rw [show ((114 : Nat) : Int) = 114 from rfl, ← hw2] at x2
  have HB2 : Hid (Bk w2 w0.heap.size g 64 64 ((nouW 64).set 0 114)) := x2
  have HK2 : Hid (Kp (fun b => b = g) w1 w2) := k2
  have HL2 : Hid (Lv w2 r [.int .i64 z, .slice p n c, .bool f, .bool l]) := HL1.out.keep k2 (fun e => HG.out.2.1 e.symm)
  have HP2 : Hid (∀ u, Kp (fun _ => False) w2 u → Calls Tryz.prog 206 #[.slice (some ⟨g, 1, none⟩) 8 63, .int .u64 ((u64Of z : Nat) : Int)] u fun e w' => e = .returned (.tuple #[]) ∧ Kp (fun b => b = g) u w' ∧ Bk w' w0.heap.size g 64 64 (spl ((nouW 64).set 0 114) 1 (big (u64Of z) 8))) := fun u k => putNumber_ok (HB2.out.keep0 k) 1 8 63 (u64Of z) (by omega) (by omega) (by omega) (u64Of_lt z)
  have q0 := HL2.out.cell (j := 0) rfl
  have hs1 := sl1 g
  clear x1 x2 k1 k2 hg HL1 sl1
  go_upto_region 3 with fail
  rw [← hw2]
  clear hw2 f0 c0
  have kd : Kp (fun _ => False) w2 w2 := Kp.refl _ _
  go_region_with (go_at_call 206; refine (HP2.out _ kd.drew).mono ?_; rintro e9 w3 ⟨rfl, k3, x3⟩)
  have HK3 : Hid (Kp (fun b => b = g) w1 w3) := HK2.out.trans ((kd.drew.mono (fun _ _ e => e.elim)).trans k3 (fun _ _ e => e)) (fun _ _ e => e)
  have HB3 : Hid (Bk w3 w0.heap.size g 64 64 (spl ((nouW 64).set 0 114) 1 (big (u64Of z) 8))) := x3
  have hl3 : Lv w3 r [.int .i64 z, .slice p n c, .bool f, .bool l] := HL2.out.keep ((kd.drew.mono (fun _ _ e => e.elim)).trans k3 (fun _ _ e => e)) (fun e => HG.out.2.1 e.symm)
  have HL3 : Hid (Lv w3 r [.int .i64 z, .slice p n c, .bool f, .bool l]) := hl3
  have q1 := hl3.cell (j := 1) rfl
  have f9 := HB3.out.fz 9
  have c9 := HB3.out.cell (j := 9) (by omega)
  clear k3 x3 hl3 kd HP2 HB2 HL2 q0 hs1 HK2
  go_upto_region 5 with fail
  obtain ⟨w4, hw4⟩ : ∃ y, y = w3.setCell ⟨g, 9, none⟩ (.int .u8 (n : Int)) := ⟨_, rfl⟩
  have x4 := HB3.out.set (j := 9) (y := n) (by omega) (by have := HN.out; omega)
  have k4 : Kp (fun b => b = g) w3 w4 := by rw [hw4]; exact kp_set
  rw [← hw4] at x4
  have HB4 : Hid (Bk w4 w0.heap.size g 64 64 ((spl ((nouW 64).set 0 114) 1 (big (u64Of z) 8)).set 9 n)) := x4
  have HK4 : Hid (Kp (fun b => b = g) w1 w4) := HK3.out.trans k4 (fun _ _ e => e)
  have hl4 : Lv w4 r [.int .i64 z, .slice p n c, .bool f, .bool l] := HL3.out.keep k4 (fun e => HG.out.2.1 e.symm)
  have HL4 : Hid (Lv w4 r [.int .i64 z, .slice p n c, .bool f, .bool l]) := hl4
  have q2 := hl4.cell (j := 2) rfl
  have q3 := hl4.cell (j := 3) rfl
  have f10 := HB4.out.fz 10
  have c10 := HB4.out.cell (j := 10) (by omega)
  have f11 := HB4.out.fz 11
  have c11 := HB4.out.cell (j := 11) (by omega)
  rw [← hw4]
  clear x4 k4 hl4 hw4 f9 c9 HB3 HL3 HK3
  have HFl : Hid (∀ (b : Bool) (u : World), Calls Tryz.prog 207 #[.bool b] u fun e w' => e = .returned (.int .u8 ((b.toNat : Nat) : Int)) ∧ w' = u) := flag_ok
  obtain ⟨w5, hw5⟩ : ∃ y, y = ((w4.setCell ⟨g, 10, none⟩ (.int .u8 ((f.toNat : Nat) : Int))).setCell ⟨g, 11, none⟩ (.int .u8 ((l.toNat : Nat) : Int))).drew := ⟨_, rfl⟩
  have hb01 : ∀ b : Bool, b.toNat < 256 := fun b => by cases b <;> decide
  have x5 := (HB4.out.set (j := 10) (y := f.toNat) (by omega) (hb01 f)).set (j := 11) (y := l.toNat) (by omega) (hb01 l)
  have k5 : Kp (fun b => b = g) w4 w5 := by rw [hw5]; exact (kp_set.trans kp_set (fun _ _ e => e)).drew
  have HB5 : Hid (Bk w5 w0.heap.size g 64 64 ((((spl ((nouW 64).set 0 114) 1 (big (u64Of z) 8)).set 9 n).set 10 f.toNat).set 11 l.toNat)) := by
    show Bk _ _ _ _ _ _
    rw [hw5]
    exact x5.keep0 (Kp.refl (fun _ => False) _).drew
  have HK5 : Hid (Kp (fun b => b = g) w1 w5) := HK4.out.trans k5 (fun _ _ e => e)
  have HL5 : Hid (Lv w5 r [.int .i64 z, .slice p n c, .bool f, .bool l]) := HL4.out.keep k5 (fun e => HG.out.2.1 e.symm)
  have HW5 : Hid (w5 = ((w4.setCell ⟨g, 10, none⟩ (.int .u8 ((f.toNat : Nat) : Int))).setCell ⟨g, 11, none⟩ (.int .u8 ((l.toNat : Nat) : Int))).drew) := hw5
  have HG5 : Hid (Kp (fun _ => False) w w5) := (HG.out.2.2.mono (fun _ _ e => e.elim)).trans (S := fun _ => False) HK5.out (fun b hb e => by have := HG.out.1; omega)
  have HSl : Hid (∀ w : World, (Instr.slice 34 (.slice (some ⟨g, 0, none⟩) 64 64) (some (.int .i64 12)) none none).run Tryz.prog w = .ok (.slice (some ⟨g, 12, none⟩) 52 52) w) := sl2 g
  clear x5 k5 hw5 sl2
  go_region_with (go_at_call 207; refine (HFl.out _ _).mono ?_; rintro e9 w9 ⟨rfl, rfl⟩)
  all_goals
    rw [← HW5.out]
    clear q1 q2 q3 f10 c10 f11 c11
    have hsl := HSl.out
    have q1 := HL5.out.cell (j := 1) rfl
    go_wp2
    go_still_tail 4, mixedW
    refine wpList_copy_bk rfl _ _ rfl w0.heap.size g 64 64 _ (HB5.out.keep0 (Kp.refl _ _).drew) 12 52 52 p n c ys rfl rfl (HR.out.keep0 HG5.out.drew) HN.out.1 (by have := HN.out; omega) (by have := HN.out; omega) ?_
    intro w6 k6 x6
    have HB6 : Hid (Bk w6 w0.heap.size g 64 64 (pcP (u64Of z) ys f l)) := by
      show Bk _ _ _ _ _ _
      unfold pcP
      rw [HN.out.2.2]
      exact x6
    have HK6 : Hid (Kp (fun b => b = g) w5 w6) := ((Kp.refl (fun b => b = g) w5).drew).trans k6 (fun _ _ e => e)
    have HG6 : Hid (Kp (fun _ => False) w w6) := HG5.out.trans (S := fun _ => False) HK6.out (fun b hb e => by have := HG.out.1; omega)
    have HS : Hid (Calls _ _ _ w6 _) := seal_ok HB6.out (fun j hj => HG6.out.cellv (HT.out j hj) id) 64 (by omega)
    clear x6 k6 hsl q1
    go_wp2_with fail
    refine HS.out.mono ?_
    rintro e9 w7 ⟨rfl, k9, x9⟩
    have HF : Hid (Kp (fun _ => False) w w7 ∧ Bk w7 w.heap.size g 64 64 (pcB (u64Of z) ys f l)) := ⟨HG6.out.trans (S := fun _ => False) k9 (fun b hb e => by have := HG.out.1; omega), ⟨x9.len, x9.byte, ownsRow_base x9.ow HK0.out.1.size⟩⟩
    have HG1 : Hid (w.heap.size ≤ g) := HG.out.1
    clear k9 x9 HS
    go_wp2
    go_ret
    exact ⟨g, HG1.out, rfl, HF.out⟩
end Go.Proofs.YtmooddbhcccicaaGreatDoor

/- What a record's sector says: pieceOf; whether it is right. -/
namespace Go.Proofs.YtmooddbhcccicaaGreatDoor
set_option linter.unusedVariables false
set_option linter.unusedSimpArgs false
open Go.RowKit Go.Deep

/-- how many bytes a record's sector says to have -/
def cntP (xs : List Nat) : Nat := min (xs.getD 9 0) 40
/-- its bytes -/
def bytP (xs : List Nat) : List Nat := (xs.drop 12).take (cntP xs)
def fstP (xs : List Nat) : Bool := decide (xs.getD 10 0 = 1)
def lstP (xs : List Nat) : Bool := decide (xs.getD 11 0 = 1)
theorem szPiece : (Tryz.prog.info? 232).map (·.size) = some 4 := by kernel_rfl
theorem dsPiece : ∃ d, Tryz.prog.underlying 232 = some d ∧ d.isRow = true := ⟨_, Tryz.underlying232, rfl⟩

theorem min_40 (y : Nat) : min (y : Int) 40 = ((min y 40 : Nat) : Int) := by omega
theorem wrap_b9 {y : Nat} (h : y < 256) : IntKind.i64.wrap (y : Int) = (y : Int) := by rw [IntKind.wrap_i64]; omega
theorem wrap_n12i {n : Nat} (h : n ≤ 40) : IntKind.i64.wrap (12 + (n : Int)) = ((12 + n : Nat) : Int) := by rw [IntKind.wrap_i64]; omega
theorem wrap_n12 {n : Nat} (h : n ≤ 40) : wrap64 (12 + (n : Int)) = ((12 + n : Nat) : Int) := by unfold wrap64; omega
set_option maxRecDepth 100000 in
set_option maxHeartbeats 1600000 in
theorem pieceOf_ok (g q c : Nat) (xs : List Nat) (w : World) (hc : 64 ≤ c) (h : Rb w (some ⟨g, q, none⟩) 64 xs) :
    Calls Tryz.prog 231 #[.slice (some ⟨g, q, none⟩) 64 c] w fun e w' => e = .returned (pcV (numAt xs 1) (.slice (some ⟨g, q + 12, none⟩) (cntP xs) (c - 12)) (fstP xs) (lstP xs)) ∧ Kp (fun _ => False) w w' := by
  obtain ⟨z, hz⟩ : ∃ z, z = numAt xs 1 := ⟨_, rfl⟩
  obtain ⟨n, hn⟩ : ∃ n, n = cntP xs := ⟨_, rfl⟩
  obtain ⟨m, hm⟩ : ∃ m, m = w.heap.size := ⟨_, rfl⟩
  obtain ⟨w0, hw0⟩ : ∃ y, y = w.alloc (.cells #[.int .i64 0, .slice none 0 0, .bool false, .bool false] 232) := ⟨_, rfl⟩
  have k0 : Kp (fun _ => False) w w0 := by rw [hw0]; exact (Kp.refl _ _).alloc _
  have HM0 : Hid (Lv w0 m [.int .i64 0, .slice none 0 0, .bool false, .bool false]) := by rw [hw0, hm]; exact Lv.new w _ _
  have r0 : Rb w0 (some ⟨g, q, none⟩) 64 xs := h.keep0 k0
  have hcell : ∀ j, j < 64 → w0.cell? ⟨g, q + j, none⟩ = some (.int .u8 ((xs.getD j 0 : Nat) : Int)) := by
    obtain ⟨b, o, e, hcl⟩ := r0.pt (by omega)
    cases e
    exact hcl
  have hlt : ∀ j, xs.getD j 0 < 256 := r0.byteAt
  obtain ⟨y9, hy9⟩ : ∃ y, y = xs.getD 9 0 := ⟨_, rfl⟩
  obtain ⟨y10, hy10⟩ : ∃ y, y = xs.getD 10 0 := ⟨_, rfl⟩
  obtain ⟨y11, hy11⟩ : ∃ y, y = xs.getD 11 0 := ⟨_, rfl⟩
  have c9 := hcell 9 (by omega)
  have c10 := hcell 10 (by omega)
  have c11 := hcell 11 (by omega)
  rw [← hy9] at c9
  rw [← hy10] at c10
  rw [← hy11] at c11
  have hmin : min (y9 : Int) 40 = (n : Int) := by rw [hn]; unfold cntP; rw [← hy9]; exact min_40 y9
  have hy9l : y9 < 256 := by rw [hy9]; exact hlt 9
  have hn40 : n ≤ 40 := by rw [hn]; unfold cntP; exact Nat.min_le_right _ _
  obtain ⟨N, hN⟩ : ∃ N, N = 12 + n := ⟨_, rfl⟩
  have s1 : ∀ w, (Instr.slice 34 (.slice (some ⟨g, q, none⟩) 64 c) (some (.int .i64 1)) (some (.int .i64 9)) none).run Tryz.prog w = .ok (.slice (some ⟨g, q + 1, none⟩) 8 (c - 1)) w := fun w => sliceLH g q 64 c 1 9 (by omega) (by omega) (by omega) w
  have s2 : ∀ w, (Instr.slice 34 (.slice (some ⟨g, q, none⟩) 64 c) (some (.int .i64 12)) (some (.int .i64 (N : Int))) none).run Tryz.prog w = .ok (.slice (some ⟨g, q + 12, none⟩) n (c - 12)) w := fun w => by
    have := sliceLH g q 64 c 12 N (by omega) (by omega) (by omega) w
    rw [show N - 12 = n by omega] at this
    exact this
  have HN : Hid (∀ u, Kp (fun _ => False) w0 u → Calls Tryz.prog 220 #[.slice (some ⟨g, q + 1, none⟩) 8 (c - 1)] u fun e w' => e = .returned (.int .i64 z) ∧ w' = u) := fun u k => by
    rw [hz]
    exact numberOf_ok ((r0.keep0 k).mid (l := 1) (m := 8) (by omega)) (c - 1) (by omega)
  obtain ⟨b10, hb10⟩ : ∃ b, b = fstP xs := ⟨_, rfl⟩
  obtain ⟨b11, hb11⟩ : ∃ b, b = lstP xs := ⟨_, rfl⟩
  have e10 : ((y10 : Int) == 1) = b10 := by
    rw [hb10]; unfold fstP; rw [← hy10]
    by_cases e : y10 = 1
    · subst e; rfl
    · rw [decide_eq_false e]; rw [beq_eq_false_iff_ne]; omega
  have e11 : ((y11 : Int) == 1) = b11 := by
    rw [hb11]; unfold lstP; rw [← hy11]
    by_cases e : y11 = 1
    · subst e; rfl
    · rw [decide_eq_false e]; rw [beq_eq_false_iff_ne]; omega
  have HK0 : Hid (Kp (fun _ => False) w w0 ∧ w.heap.size ≤ m) := ⟨k0, by omega⟩
  have hw9 := wrap_b9 hy9l
  have hwn : wrap64 (12 + (n : Int)) = (N : Int) := by rw [hN]; exact wrap_n12 hn40
  have hwn2 : IntKind.i64.wrap (12 + (n : Int)) = (N : Int) := by rw [hN]; exact wrap_n12i hn40
  rw [← hz, ← hn, ← hb10, ← hb11]
  clear hz hn hb10 hb11 hy9 hy10 hy11 hcell hlt r0 h k0 hn40 hy9l hN
  go_enter Tryz.func231, Tryz.ntmps231
  go_upto_region 1 with fail
  rw [← hw0, ← hm]
  clear hw0 hm
  go_upto_region 2 with fail
  refine wp_region_still_tail 16 (by kernel_rfl) (by kernel_rfl) ?_
  obtain ⟨w2, hw2⟩ : ∃ x, x = { w0 with drawn := w0.drawn + 1 } := ⟨_, rfl⟩
  have kd : Kp (fun _ => False) w0 w2 := by rw [hw2]; exact (Kp.refl _ _).drew
  have HN2 : Hid (Calls _ _ _ w2 _) := HN.out w2 kd
  have d10 := kd.cellv c10 id
  have d11 := kd.cellv c11 id
  have hlm : Lv w2 m [.int .i64 0, .slice none 0 0, .bool false, .bool false] := HM0.out.keep kd id
  have HM2 : Hid (Lv w2 m [.int .i64 0, .slice none 0 0, .bool false, .bool false]) := hlm
  have HK2 : Hid (Kp (fun _ => False) w w2) := HK0.out.1.trans kd (fun _ _ e => e)
  rw [← hw2]
  clear hw2 c10 c11 c9 kd hlm HM0 HN
  simp only [List.take_succ_cons, List.take_zero, List.drop_succ_cons, List.drop_zero]
  iterate 2 still_step
  still_call (HN2.out)
  iterate 13 still_step
  refine wpStill_nil ?_
  have c0 := HM2.out.cell (j := 0) rfl
  have c1 := HM2.out.cell (j := 1) rfl
  have c2 := HM2.out.cell (j := 2) rfl
  have c3 := HM2.out.cell (j := 3) rfl
  have f0 := HM2.out.fz (j := 0) (by decide)
  have f1 := HM2.out.fz (j := 1) (by decide)
  have f2 := HM2.out.fz (j := 2) (by decide)
  have f3 := HM2.out.fz (j := 3) (by decide)
  obtain ⟨sv, hsv⟩ : ∃ sv : Value, sv = .slice (some ⟨g, q + 12, none⟩) n (c - 12) := ⟨_, rfl⟩
  obtain ⟨w5, hw5⟩ : ∃ y, y = (((w2.setCell ⟨m, 0, none⟩ (.int .i64 z)).setCell ⟨m, 1, none⟩ sv).setCell ⟨m, 2, none⟩ (.bool b10)).setCell ⟨m, 3, none⟩ (.bool b11) := ⟨_, rfl⟩
  have hl5 : Lv w5 m [.int .i64 z, sv, .bool b10, .bool b11] := by
    rw [hw5]
    have a1 : Lv (w2.setCell ⟨m, 0, none⟩ (.int .i64 z)) m [.int .i64 z, .slice none 0 0, .bool false, .bool false] := HM2.out.set1 0 (.int .i64 z) (by decide)
    have a2 : Lv ((w2.setCell ⟨m, 0, none⟩ (.int .i64 z)).setCell ⟨m, 1, none⟩ sv) m [.int .i64 z, sv, .bool false, .bool false] := a1.set1 1 sv (by simp)
    have a3 : Lv (((w2.setCell ⟨m, 0, none⟩ (.int .i64 z)).setCell ⟨m, 1, none⟩ sv).setCell ⟨m, 2, none⟩ (.bool b10)) m [.int .i64 z, sv, .bool b10, .bool false] := a2.set1 2 (.bool b10) (by simp)
    exact a3.set1 3 (.bool b11) (by simp)
  have k5 : Kp (fun b => b = m) w2 w5 := by rw [hw5]; exact ((kp_set.trans kp_set (fun _ _ e => e)).trans kp_set (fun _ _ e => e)).trans kp_set (fun _ _ e => e)
  have HF : Hid (Kp (fun _ => False) w w5) := HK2.out.trans (S := fun _ => False) k5 (fun b hb e => by have := HK0.out.2; omega)
  have HLd : Hid ((loadVar 232 ⟨m, 0, none⟩).run Tryz.prog w5 = .ok (pcV z sv b10 b11) w5) := hl5.load dsPiece szPiece rfl
  rw [hsv] at hw5 HLd
  clear hl5 k5 hsv
  go_wp2
  rw [← hw5]
  refine bodyPost_ret (res_cell Tryz.results231 _ _ m _ rfl HLd.out) rfl ?_
  exact ⟨rfl, HF.out⟩

/-- whether the bytes xs are the piece's sector, and a record may have it -/
def rightP (z : Int) (ys : List Nat) (f l : Bool) (xs : List Nat) : Bool := decide (1 ≤ ys.length) && ((l || decide (ys.length = 40)) && decide (xs = pcB (u64Of z) ys f l))

set_option maxRecDepth 100000 in
set_option maxHeartbeats 1600000 in
theorem pright_ok (z : Int) (p : Option Addr) (n c : Nat) (ys : List Nat) (f l : Bool) (q : Option Addr) (cq : Nat) (xs : List Nat) (w : World) (h : Rb w p n ys) (hn : (n : Int) ≤ 40) (hx : Rb w q 64 xs) (ht : Turns w) :
    Calls Tryz.prog 232 #[pcV z (.slice p n c) f l, .slice q 64 cq] w fun e w' => e = .returned (.bool (rightP z ys f l xs)) ∧ Kp (fun _ => False) w w' := by
  obtain ⟨r, hr⟩ : ∃ r, r = w.heap.size := ⟨_, rfl⟩
  obtain ⟨w0, hw0⟩ : ∃ y, y = w.alloc (.cells #[.int .i64 z, .slice p n c, .bool f, .bool l] 232) := ⟨_, rfl⟩
  have HL0 : Hid (Lv w0 r [.int .i64 z, .slice p n c, .bool f, .bool l]) := by rw [hw0, hr]; exact Lv.new w _ _
  have HK0 : Hid (Kp (fun _ => False) w w0) := by rw [hw0]; exact (Kp.refl _ _).alloc _
  have q0 := HL0.out.cell (j := 0) rfl
  have q1 := HL0.out.cell (j := 1) rfl
  have q2 := HL0.out.cell (j := 2) rfl
  have q3 := HL0.out.cell (j := 3) rfl
  have hlen : ys.length = n := h.len
  have HS : Hid (0 < n → Calls Tryz.prog 168 #[pcV z (.slice p n c) f l] w0 fun e w' => ∃ g, w0.heap.size ≤ g ∧ e = .returned (.slice (some ⟨g, 0, none⟩) 64 64) ∧ Kp (fun _ => False) w0 w' ∧ Bk w' w0.heap.size g 64 64 (pcB (u64Of z) ys f l)) := fun h0 => psector_ok z p n c ys f l w0 (h.keep0 HK0.out) h0 hn (fun j hj => HK0.out.cellv (ht j hj) id)
  have HX : Hid (Rb w q 64 xs) := hx
  obtain ⟨b1, hb1⟩ : ∃ b, b = decide (1 ≤ n) := ⟨_, rfl⟩
  obtain ⟨b2, hb2⟩ : ∃ b, b = decide (n = 40) := ⟨_, rfl⟩
  obtain ⟨P, hP⟩ : ∃ P, P = pcB (u64Of z) ys f l := ⟨_, rfl⟩
  have HE : Hid (rightP z ys f l xs = (b1 && ((l || b2) && decide (xs = P)))) := by show _ = _; rw [hb1, hb2, hP]; unfold rightP; rw [hlen]
  rw [HE.out]
  rw [← hP] at HS
  clear h hx ht hP hlen hn HE
  cases b1 with
  | false =>
    have h1 : ¬ (n : Int) ≥ 1 := by have := of_decide_eq_false hb1.symm; omega
    simp only [Bool.false_and]
    clear hb1 hb2 HS HX
    go_enter Tryz.func232, Tryz.ntmps232
    go_upto_region 1 with fail
    rw [← hw0, ← hr]
    clear hw0 hr
    go_wp2
    go_ret
    exact ⟨rfl, HK0.out⟩
  | true =>
    have h1' : 1 ≤ n := of_decide_eq_true hb1.symm
    have h1 : (n : Int) ≥ 1 := by omega
    have HS2 := HS.out (by omega)
    have HS3 : Hid (Calls _ _ _ w0 _) := HS2
    simp only [Bool.true_and]
    clear hb1 HS HS2 h1'
    have h2 : ((n : Int) == 40) = b2 := by
      rw [hb2]
      by_cases e : n = 40
      · subst e; rfl
      · rw [decide_eq_false e, beq_eq_false_iff_ne]; omega
    clear hb2
    cases l with
    | false =>
      cases b2 with
      | false =>
        simp only [Bool.false_or, Bool.false_and]
        clear HS3 HX
        go_enter Tryz.func232, Tryz.ntmps232
        go_upto_region 1 with fail
        rw [← hw0, ← hr]
        clear hw0 hr
        go_wp2
        go_ret
        exact ⟨rfl, HK0.out⟩
      | true =>
        simp only [Bool.false_or, Bool.true_and]
        go_enter Tryz.func232, Tryz.ntmps232
        go_upto_region 1 with fail
        rw [← hw0, ← hr]
        clear hw0 hr
        go_wp2_with fail
        refine HS3.out.mono ?_
        rintro e9 w2 ⟨g2, _, rfl, k2, x2⟩
        have HK2 : Hid (Kp (fun _ => False) w w2) := HK0.out.trans k2 (fun _ _ e => e)
        have HQ : Hid (Calls _ _ _ w2 _) := equal_any cq 64 w2 (HX.out.keep0 HK2.out) x2.rb
        clear k2 x2 HS3
        go_wp2_with fail
        refine HQ.out.mono ?_
        rintro e9 w9 ⟨rfl, hw9⟩
        have hw8 := hw9.symm
        subst hw8
        clear hw9 HQ
        obtain ⟨b7, h7⟩ : ∃ x, x = decide (xs = P) := ⟨_, rfl⟩
        rw [← h7]
        have H7 : Hid (b7 = decide (xs = P)) := h7
        clear h7
        go_wp2
        go_ret
        exact ⟨by show Ending.returned (.bool b7) = _; rw [H7.out], HK2.out⟩
    | true =>
      simp only [Bool.true_or, Bool.true_and]
      go_enter Tryz.func232, Tryz.ntmps232
      go_upto_region 1 with fail
      rw [← hw0, ← hr]
      clear hw0 hr
      go_wp2_with fail
      refine HS3.out.mono ?_
      rintro e9 w2 ⟨g2, _, rfl, k2, x2⟩
      have HK2 : Hid (Kp (fun _ => False) w w2) := HK0.out.trans k2 (fun _ _ e => e)
      have HQ : Hid (Calls _ _ _ w2 _) := equal_any cq 64 w2 (HX.out.keep0 HK2.out) x2.rb
      clear k2 x2 HS3
      go_wp2_with fail
      refine HQ.out.mono ?_
      rintro e9 w9 ⟨rfl, hw9⟩
      have hw8 := hw9.symm
      subst hw8
      clear hw9 HQ
      obtain ⟨b7, h7⟩ : ∃ x, x = decide (xs = P) := ⟨_, rfl⟩
      rw [← h7]
      have H7 : Hid (b7 = decide (xs = P)) := h7
      clear h7
      go_wp2
      go_ret
      exact ⟨by show Ending.returned (.bool b7) = _; rw [H7.out], HK2.out⟩
end Go.Proofs.YtmooddbhcccicaaGreatDoor
